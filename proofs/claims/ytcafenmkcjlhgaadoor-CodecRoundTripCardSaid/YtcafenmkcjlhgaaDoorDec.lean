/- codec.isDecimal, codec.ParseDigits -/
import Derived.Test.YtcafenmkcjlhgaaDoorBytes
import Derived.Test.YtcafenmkcjlhgaaDoorMath2
import Derived.BigGuard
import Derived.Lib.SmallJoins
namespace Go.Proofs.YtcafenmkcjlhgaaDoor
open Go Go.RowKit

theorem toList_data (s : ByteArray) : s.toList = s.data.toList := Go.ByteArray.toList_eq s

theorem getD_zero (s : ByteArray) (h : 0 < s.size) : s.data.toList.getD 0 0 = s[0] := by
  have h2 : 0 < s.data.toList.length := by simpa using h
  rw [List.getD_eq_getElem?_getD, List.getElem?_eq_getElem h2, Option.getD_some]
  rfl

set_option maxHeartbeats 1600000 in
theorem isDecimal_any (s : ByteArray) (w : World) (hl : s.size ≤ maxLen) :
    Calls Tryd.prog 31 #[.string s] w fun e w' => e = .returned (.bool (decOk s.data.toList)) ∧ w = w' := by
  unfold maxLen at hl
  have hsz : s.data.toList.length = s.size := by simp
  have HSz := Lib.hid hsz
  by_cases h0 : s.size = 0
  · have hnil : s.data.toList = [] := List.eq_nil_of_length_eq_zero (by rw [hsz]; exact h0)
    have he : s.toList.isEmpty = true := by rw [toList_data, hnil]; rfl
    have hok : decOk s.data.toList = false := by rw [hnil]; rfl
    have HS := Lib.hid hok
    clear hok hsz hnil
    go_enter Tryd.func31, Tryd.ntmps31
    go_wp2
    go_ret
    exact ⟨by rw [HS.out]; rfl, rfl⟩
  · have hpos : 0 < s.size := by omega
    have he : s.toList.isEmpty = false := by
      rw [toList_data]
      cases h : s.data.toList with
      | nil => rw [h] at hsz; simp at hsz; omega
      | cons a b => rfl
    have hgz := getD_zero s hpos
    have hisE : s.data.toList.isEmpty = false := by rw [← toList_data]; exact he
    clear hsz
    by_cases hz : (s[0]'hpos).toNat = 48
    · have hzb : (((s[0]'hpos).toNat : Int) == 48) = true := by simp; omega
      have hz8 : ((s[0]'hpos) == (48 : UInt8)) = true := by rw [beq_iff_eq]; exact UInt8.toNat_inj.1 hz
      by_cases h1 : 1 < s.size
      · have hok : decOk s.data.toList = false := by
          simp only [decOk, hgz, hz8, HSz.out, h1, decide_true, Bool.and_self, Bool.not_true, Bool.and_false, Bool.false_and]
        have HS := Lib.hid hok
        clear hok hgz hisE hz8 hz
        go_enter Tryd.func31, Tryd.ntmps31
        go_wp2
        go_ret
        exact ⟨by rw [HS.out]; rfl, rfl⟩
      · have hD : s.data.toList.all digB = true → decOk s.data.toList = true := by
          intro ha
          simp only [decOk, ha, hisE, HSz.out, h1, decide_false, Bool.and_false, Bool.not_false, Bool.and_self]
        have HD := Lib.hid hD
        have h1' : s.size ≤ 1 := by omega
        clear hD hgz hisE hz8 hz h1
        go_enter Tryd.func31, Tryd.ntmps31
        go_wp2
        go_loop [3, 18] (fun _ i => ∃ k : Nat, k ≤ s.size ∧ i = .int .i64 k ∧ Hid ((s.data.toList.take k).all digB = true)) (fun _ i => s.size - (intOf i).toNat)
        case atStart => exact ⟨0, Nat.zero_le _, rfl, rfl⟩
        case round =>
          obtain ⟨k, hk, rfl, HA⟩ := hrel
          by_cases hlt : k < s.size
          · have hlt' : k < s.data.toList.length := by rw [HSz.out]; exact hlt
            have hst := take_all s.data.toList k hlt' HA.out
            have hbk : s.data.toList[k].toNat = (s[k]'hlt).toNat := rfl
            by_cases h48 : (48 : Int) ≤ ((s[k]'hlt).toNat : Int)
            · by_cases h57 : ((s[k]'hlt).toNat : Int) ≤ 57
              · have hd : digB s.data.toList[k] = true := by simp only [digB, Bool.and_eq_true, decide_eq_true_eq]; omega
                rw [hd] at hst
                have HS := Lib.hid hst
                clear hst hd hbk hlt'
                go_wp2
                go_round
                case rel => exact ⟨k + 1, by omega, by go_num, HS⟩
                case measure => simp [intOf]; omega
              · have hd : digB s.data.toList[k] = false := by simp only [digB, Bool.and_eq_false_iff, decide_eq_false_iff_not]; omega
                have hall := all_false _ k hlt' hd
                have hok : decOk s.data.toList = false := by simp only [decOk, hall, Bool.and_false]
                have HS := Lib.hid hok
                clear hst hd hbk hlt' hall hok
                go_wp2
                go_ret
                exact ⟨by rw [HS.out]; rfl, rfl⟩
            · have hd : digB s.data.toList[k] = false := by simp only [digB, Bool.and_eq_false_iff, decide_eq_false_iff_not]; omega
              have hall := all_false _ k hlt' hd
              have hok : decOk s.data.toList = false := by simp only [decOk, hall, Bool.and_false]
              have HS := Lib.hid hok
              clear hst hd hbk hlt' hall hok
              go_wp2
              go_ret
              exact ⟨by rw [HS.out]; rfl, rfl⟩
          · have hkl : k = s.size := by omega
            subst hkl
            have hall : s.data.toList.all digB = true := by
              have := HA.out
              rwa [List.take_of_length_le (by rw [HSz.out]; exact Nat.le_refl _)] at this
            have HS := Lib.hid (HD.out hall)
            clear hall
            go_wp2
            go_ret
            exact ⟨by rw [HS.out]; rfl, rfl⟩
    · have hzb : (((s[0]'hpos).toNat : Int) == 48) = false := by simp; omega
      have hz8 : ((s[0]'hpos) == (48 : UInt8)) = false := by
        rw [beq_eq_false_iff_ne]
        intro h
        rw [h] at hz
        exact hz rfl
      have hD : s.data.toList.all digB = true → decOk s.data.toList = true := by
        intro ha
        simp only [decOk, ha, hisE, hgz, hz8, Bool.false_and, Bool.not_false, Bool.and_self]
      have HD := Lib.hid hD
      clear hD hgz hisE hz8 hz
      go_enter Tryd.func31, Tryd.ntmps31
      go_wp2
      go_loop [3, 18] (fun _ i => ∃ k : Nat, k ≤ s.size ∧ i = .int .i64 k ∧ Hid ((s.data.toList.take k).all digB = true)) (fun _ i => s.size - (intOf i).toNat)
      case atStart => exact ⟨0, Nat.zero_le _, rfl, rfl⟩
      case round =>
        obtain ⟨k, hk, rfl, HA⟩ := hrel
        by_cases hlt : k < s.size
        · have hlt' : k < s.data.toList.length := by rw [HSz.out]; exact hlt
          have hst := take_all s.data.toList k hlt' HA.out
          have hbk : s.data.toList[k].toNat = (s[k]'hlt).toNat := rfl
          by_cases h48 : (48 : Int) ≤ ((s[k]'hlt).toNat : Int)
          · by_cases h57 : ((s[k]'hlt).toNat : Int) ≤ 57
            · have hd : digB s.data.toList[k] = true := by simp only [digB, Bool.and_eq_true, decide_eq_true_eq]; omega
              rw [hd] at hst
              have HS := Lib.hid hst
              clear hst hd hbk hlt'
              go_wp2
              go_round
              case rel => exact ⟨k + 1, by omega, by go_num, HS⟩
              case measure => simp [intOf]; omega
            · have hd : digB s.data.toList[k] = false := by simp only [digB, Bool.and_eq_false_iff, decide_eq_false_iff_not]; omega
              have hall := all_false _ k hlt' hd
              have hok : decOk s.data.toList = false := by simp only [decOk, hall, Bool.and_false]
              have HS := Lib.hid hok
              clear hst hd hbk hlt' hall hok
              go_wp2
              go_ret
              exact ⟨by rw [HS.out]; rfl, rfl⟩
          · have hd : digB s.data.toList[k] = false := by simp only [digB, Bool.and_eq_false_iff, decide_eq_false_iff_not]; omega
            have hall := all_false _ k hlt' hd
            have hok : decOk s.data.toList = false := by simp only [decOk, hall, Bool.and_false]
            have HS := Lib.hid hok
            clear hst hd hbk hlt' hall hok
            go_wp2
            go_ret
            exact ⟨by rw [HS.out]; rfl, rfl⟩
        · have hkl : k = s.size := by omega
          subst hkl
          have hall : s.data.toList.all digB = true := by
            have := HA.out
            rwa [List.take_of_length_le (by rw [HSz.out]; exact Nat.le_refl _)] at this
          have HS := Lib.hid (HD.out hall)
          clear hall
          go_wp2
          go_ret
          exact ⟨by rw [HS.out]; rfl, rfl⟩

/-- strconv.ErrRange holds an error that is not nil. -/
def ErrTab (w : World) : Prop := ∃ tp p, w.var? Tryd.prog "strconv.ErrRange" = some #[.iface tp p]

theorem ParseDigits_any (s : ByteArray) (w : World) (hl : s.size ≤ 1000000) (he : ErrTab w) :
    Calls Tryd.prog 21 #[.string s] w fun e w' => e = .returned (.tuple #[.int .u64 (pdRes s.data.toList).1, .int .i64 (pdRes s.data.toList).2]) ∧ Below w.heap.size w w' := by
  have hm : s.size ≤ maxLen := by unfold maxLen; omega
  by_cases hd : decOk s.data.toList = true
  · obtain ⟨hall, hne⟩ := decOk_all hd
    have hpu := parseUintB_dec _ hall hne
    by_cases hle : decN 0 s.data.toList ≤ 18446744073709551615
    · have hr : pdRes s.data.toList = (((decN 0 s.data.toList : Nat) : Int), 0) := by unfold pdRes; rw [if_pos hd, if_pos hle]
      rw [if_pos hle] at hpu
      rw [hr]
      have HD := Lib.hid hd
      have HP := Lib.hid hpu
      clear hd hpu hr hall hne hle
      generalize decN 0 s.data.toList = u at *
      go_enter Tryd.func21, Tryd.ntmps21
      go_wp2_with (first
        | (go_at_call 31; refine (isDecimal_any s _ hm).mono ?_; rw [HD.out]; rintro e w' ⟨rfl, rfl⟩)
        | (go_at_call 32; refine (Tryd.strconv_ParseUint_10_at64_ok s (by omega) u HP.out _).mono ?_; rintro e w1 ⟨rfl, hw1⟩))
      have hb : Below w.heap.size w w1 := by
        rcases hw1 with rfl | rfl
        · exact Below.refl _ _
        · exact Joins.below_bytesWorld _ _ _ _ (Nat.le_refl _)
      clear hw1
      go_ret2
      exact ⟨rfl, hb⟩
    · have hr : pdRes s.data.toList = (0, 16) := by unfold pdRes; rw [if_pos hd, if_neg hle]
      rw [if_neg hle] at hpu
      rw [hr]
      obtain ⟨tp, p, hv⟩ := he
      have HD := Lib.hid hd
      have HP := Lib.hid hpu
      have HV := Lib.hid hv
      clear hd hpu hr hall hne hle hv
      go_enter Tryd.func21, Tryd.ntmps21
      go_wp2_with (first
        | (go_at_call 31; refine (isDecimal_any s _ hm).mono ?_; rw [HD.out]; rintro e w' ⟨rfl, rfl⟩)
        | (go_at_call 32; refine (Tryd.strconv_ParseUint_10_at64_range_var s (by omega) HP.out tp p _ HV.out).mono ?_; rintro e w1 ⟨N, rfl, hN, hN2, hb⟩; clear hN hN2))
      go_ret2
      exact ⟨rfl, hb⟩
  · have hd : decOk s.data.toList = false := by simpa using hd
    have hr : pdRes s.data.toList = (0, 8) := by unfold pdRes; rw [if_neg (by rw [hd]; decide)]
    rw [hr]
    have HD := Lib.hid hd
    clear hd hr
    go_enter Tryd.func21, Tryd.ntmps21
    go_wp2_with (go_at_call 31; refine (isDecimal_any s _ hm).mono ?_; rw [HD.out]; rintro e w' ⟨rfl, rfl⟩)
    go_ret2
    exact ⟨rfl, Below.refl _ _⟩
end Go.Proofs.YtcafenmkcjlhgaaDoor
