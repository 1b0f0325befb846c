/- CrcSums, CrcUpdates, CrcCombines: the walks, over the contracts of package crc. -/
import Derived.Test.YtdjpoffanfgmmaaCrcApi
namespace Go.Proofs.Ytdjpoffanfgmmaa
open Go Go.RowKit

set_option maxHeartbeats 3200000 in
set_option maxRecDepth 100000 in
theorem crcSums_sl {L : World → Prop} (H : CrcOk L) (p : Option Addr) (len cap : Nat) (xs : List Int) (s : BitVec 32) (w : World) (h : L w) (hS : Sl w p len cap xs) :
    Calls Try.prog 3 #[.slice p len cap, .int .u32 (s.toNat : Int)] w fun e w' => e = .returned (.bool true) ∧ Below w.heap.size w w' := by
  have HH := Lib.hid H
  have HL := Lib.hid h
  have HS := Lib.hid hS
  clear H h hS
  by_cases hbig : 2000 < len
  · go_enter Try.func3, Try.ntmps3
    go_wp2_with fail
    refine (works2_any HH.out _ HL.out).mono ?_
    rintro e w1 ⟨rfl, hb⟩
    go_wp2_with fail
    go_ret
    exact ⟨rfl, hb⟩
  · obtain ⟨c, hc⟩ : ∃ c, c = crcU 0#32 xs := ⟨_, rfl⟩
    have HR : Hid (∀ w', Sl w' p len cap xs → Calls Try.prog 14 #[.slice p len cap] w' fun e w'' => e = .returned (.int .u32 (c.toNat : Int)) ∧ w' = w'') := by
      intro w' h'; rw [hc]; exact rSum_any p len cap xs w' (by unfold maxLen; omega) h'
    have HSum : Hid (∀ w', Sl w' p len cap xs → L w' → Calls Try.prog 15 #[.slice p len cap] w' fun e w'' => e = .returned (.int .u32 (c.toNat : Int)) ∧ Below w'.heap.size w' w'') := by
      intro w' h' hL; rw [hc]; exact HH.out.sum p len cap xs w' (by omega) h' hL
    have HV : Hid (∀ (t : BitVec 32) (v : Bool) w', (c == t) = v → Sl w' p len cap xs → L w' → Calls Try.prog 16 #[.slice p len cap, .int .u32 (t.toNat : Int)] w' fun e w'' => e = .returned (.bool v) ∧ Below w'.heap.size w' w'') := by
      intro t v w' hv h' hL; subst hv; rw [hc]; exact HH.out.valid t p len cap xs w' (by omega) h' hL
    clear hc
    obtain ⟨v, hv⟩ : ∃ v, (c == s) = v := ⟨_, rfl⟩
    have hcmp : ((s.toNat : Int) == (c.toNat : Int)) = v := by
      rw [← hv, Bool.eq_iff_iff, beq_iff_eq, beq_iff_eq]
      constructor
      · intro h; exact BitVec.eq_of_toNat_eq (by omega)
      · rintro rfl; rfl
    have HCmp := Lib.hid hcmp
    have HVv := Lib.hid hv
    clear hv hcmp
    go_enter Try.func3, Try.ntmps3
    go_wp2_with fail
    refine (HR.out _ HS.out).mono ?_
    rintro e w1 ⟨rfl, rfl⟩
    go_wp2_with fail
    refine (HSum.out _ HS.out HL.out).mono ?_
    rintro e w2 ⟨rfl, hb2⟩
    have HS2 := Lib.hid (HS.out.below hb2)
    have HL2 := Lib.hid (HH.out.below _ _ HL.out hb2)
    have HB2 := Lib.hid hb2
    clear hb2
    go_wp2_with fail
    refine (HV.out c true _ (beq_self_eq_true c) HS2.out HL2.out).mono ?_
    rintro e w3 ⟨rfl, hb3⟩
    have HS3 := Lib.hid (HS2.out.below hb3)
    have HL3 := Lib.hid (HH.out.below _ _ HL2.out hb3)
    have HB3 := Lib.hid (below_then HB2.out hb3)
    clear hb3
    go_wp2_with fail
    refine (HV.out s v _ HVv.out HS3.out HL3.out).mono ?_
    rintro e w4 ⟨rfl, hb4⟩
    have HL4 := Lib.hid (HH.out.below _ _ HL3.out hb4)
    have HB4 := Lib.hid (below_then HB3.out hb4)
    clear hb4
    have hcmp := HCmp.out
    cases v
    all_goals
      go_wp2_with fail
      refine (works2_any HH.out _ HL4.out).mono ?_
      rintro e w5 ⟨rfl, hb5⟩
      go_wp2_with fail
      go_ret
      exact ⟨rfl, below_then HB4.out hb5⟩

set_option maxHeartbeats 3200000 in
set_option maxRecDepth 100000 in
theorem crcUpdates_sl {L : World → Prop} (H : CrcOk L) (p : Option Addr) (len cap : Nat) (xs : List Int) (s : BitVec 32) (w : World) (h : L w) (hS : Sl w p len cap xs) :
    Calls Try.prog 4 #[.int .u32 (s.toNat : Int), .slice p len cap] w fun e w' => e = .returned (.bool true) ∧ Below w.heap.size w w' := by
  have HH := Lib.hid H
  have HL := Lib.hid h
  have HS := Lib.hid hS
  clear H h hS
  by_cases hbig : 2000 < len
  · go_enter Try.func4, Try.ntmps4
    go_wp2_with fail
    refine (works2_any HH.out _ HL.out).mono ?_
    rintro e w1 ⟨rfl, hb⟩
    go_wp2_with fail
    go_ret
    exact ⟨rfl, hb⟩
  · go_enter Try.func4, Try.ntmps4
    go_wp2_with fail
    refine (HH.out.upd s p len cap xs _ (by omega) HS.out HL.out).mono ?_
    rintro e w1 ⟨rfl, hb1⟩
    have HS1 := Lib.hid (HS.out.below hb1)
    have HL1 := Lib.hid (HH.out.below _ _ HL.out hb1)
    have HB1 := Lib.hid hb1
    clear hb1
    go_wp2_with fail
    refine (rUpdate_any s p len cap xs _ (by unfold maxLen; omega) HS1.out).mono ?_
    rintro e w2 ⟨rfl, rfl⟩
    go_wp2_with fail
    refine (works2_any HH.out _ HL1.out).mono ?_
    rintro e w5 ⟨rfl, hb5⟩
    go_wp2_with fail
    go_ret
    exact ⟨rfl, below_then HB1.out hb5⟩

set_option maxHeartbeats 3200000 in
set_option maxRecDepth 100000 in
theorem crcCombines_bv {L : World → Prop} (H : CrcOk L) (a b : BitVec 32) (n : Int) (w : World) (h : L w) (hn : n ≤ 9223372036854775807) :
    Calls Try.prog 5 #[.int .u32 (a.toNat : Int), .int .u32 (b.toNat : Int), .int .i64 n] w fun e w' => e = .returned (.bool true) ∧ Below w.heap.size w w' := by
  have HH := Lib.hid H
  have HL := Lib.hid h
  clear H h
  by_cases hneg : n < 0
  · go_enter Try.func5, Try.ntmps5
    go_wp2_with fail
    refine (HH.out.neg a b n _ hneg HL.out).mono ?_
    rintro e w1 ⟨rfl, hb1⟩
    have HL1 := Lib.hid (HH.out.below _ _ HL.out hb1)
    have HB1 := Lib.hid hb1
    clear hb1
    go_wp2_with fail
    refine (rCombine_neg a b n _ hneg).mono ?_
    rintro e w2 ⟨rfl, rfl⟩
    go_wp2_with fail
    refine (works2_any HH.out _ HL1.out).mono ?_
    rintro e w5 ⟨rfl, hb5⟩
    go_wp2_with fail
    go_ret
    exact ⟨rfl, below_then HB1.out hb5⟩
  · obtain ⟨k, rfl⟩ := Int.eq_ofNat_of_zero_le (show 0 ≤ n by omega)
    have hk : k ≤ 9223372036854775807 := by omega
    go_enter Try.func5, Try.ntmps5
    go_wp2_with fail
    refine (HH.out.comb a b k _ hk HL.out).mono ?_
    rintro e w1 ⟨rfl, hb1⟩
    have HL1 := Lib.hid (HH.out.below _ _ HL.out hb1)
    have HB1 := Lib.hid hb1
    clear hb1
    go_wp2_with fail
    refine (rCombine_any a b k _ hk).mono ?_
    rintro e w2 ⟨rfl, hb2⟩
    have HL2 := Lib.hid (HH.out.below _ _ HL1.out hb2)
    have HB2 := Lib.hid (below_then HB1.out hb2)
    clear hb2
    go_wp2_with fail
    refine (works2_any HH.out _ HL2.out).mono ?_
    rintro e w5 ⟨rfl, hb5⟩
    go_wp2_with fail
    go_ret
    exact ⟨rfl, below_then HB2.out hb5⟩
end Go.Proofs.Ytdjpoffanfgmmaa
