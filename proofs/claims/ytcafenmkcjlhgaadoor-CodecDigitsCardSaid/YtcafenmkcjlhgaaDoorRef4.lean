/- The document's own ParseDigits (drumlinref01). -/
import Derived.Test.YtcafenmkcjlhgaaDoorDec
import Derived.BigGuard
namespace Go.Proofs.YtcafenmkcjlhgaaDoor
open Go Go.RowKit

/-- The state of the document's loop over digits, behind k of them: v what was reckoned, o whether it has passed the greatest number. -/
structure RdInv (l : List UInt8) (k : Nat) (v : Int) (o : Bool) : Prop where
  dig : (l.take k).all digB = true
  rng : 0 ≤ v ∧ v ≤ 18446744073709551615
  over : o = true → 18446744073709551615 < decN 0 (l.take k)
  fine : o = false → v = (decN 0 (l.take k) : Nat)

theorem rd_start (l : List UInt8) : RdInv l 0 0 false := ⟨rfl, by omega, (fun h => by cases h), fun _ => rfl⟩

theorem decN_snoc (a : List UInt8) (c : UInt8) : decN 0 (a ++ [c]) = decN 0 a * 10 + (c.toNat - 48) := by
  rw [decN_append]; rfl

theorem rd_step (l : List UInt8) (k : Nat) (v : Int) (o : Bool) (h : k < l.length) (hd : digB l[k] = true) (hi : RdInv l k v o) :
    (o = true → RdInv l (k + 1) (IntKind.u64.wrap (IntKind.u64.wrap (v * 10) + ((l[k].toNat : Int) - 48))) true) ∧
    (o = false → ((18446744073709551615 - ((l[k].toNat : Int) - 48)) / 10 < v → RdInv l (k + 1) (IntKind.u64.wrap (IntKind.u64.wrap (v * 10) + ((l[k].toNat : Int) - 48))) true) ∧
      (v ≤ (18446744073709551615 - ((l[k].toNat : Int) - 48)) / 10 → RdInv l (k + 1) (v * 10 + ((l[k].toNat : Int) - 48)) false)) := by
  have hst := take_all l k h hi.dig
  rw [hd] at hst
  have ht : l.take (k + 1) = l.take k ++ [l[k]] := by rw [List.take_succ_eq_append_getElem h]
  have hn : decN 0 (l.take (k + 1)) = decN 0 (l.take k) * 10 + (l[k].toNat - 48) := by rw [ht, decN_snoc]
  simp only [digB, Bool.and_eq_true, decide_eq_true_eq] at hd
  have hwr : ∀ x : Int, 0 ≤ IntKind.u64.wrap x ∧ IntKind.u64.wrap x ≤ 18446744073709551615 := by
    intro x; rw [IntKind.wrap_u64]; omega
  refine ⟨fun ho => ?_, fun ho => ⟨fun hb => ?_, fun hb => ?_⟩⟩
  · have h1 := hi.over ho
    exact ⟨hst, hwr _, fun _ => by omega, fun h => by cases h⟩
  · have h1 := hi.fine ho
    exact ⟨hst, hwr _, fun _ => by omega, fun h => by cases h⟩
  · have h1 := hi.fine ho
    have h2 := hi.rng
    exact ⟨hst, by omega, (fun h => by cases h), fun _ => by omega⟩

theorem rd_end (l : List UInt8) (k : Nat) (v : Int) (o : Bool) (hk : l.length = k) (hD : l.all digB = true → decOk l = true) (hi : RdInv l k v o) :
    pdRes l = if o then (0, 16) else (v, 0) := by
  have ht : l.take k = l := List.take_of_length_le (by omega)
  have h1 := hi.dig
  have h2 := hi.over
  have h3 := hi.fine
  have h4 := hi.rng
  rw [ht] at h1 h2 h3
  unfold pdRes
  rw [if_pos (hD h1)]
  cases o with
  | true => rw [if_neg (by have := h2 rfl; omega)]; rfl
  | false =>
    have h5 := h3 rfl
    rw [if_pos (by omega), ← h5]; rfl

set_option maxHeartbeats 1600000 in
theorem rParseDigits_any (s : ByteArray) (w : World) (hl : s.size ≤ maxLen) :
    Calls Tryd.prog 22 #[.string s] w fun e w' => e = .returned (.tuple #[.int .u64 (pdRes s.data.toList).1, .int .i64 (pdRes s.data.toList).2]) ∧ w = w' := by
  unfold maxLen at hl
  have hsz : s.data.toList.length = s.size := by simp
  have HSz := Lib.hid hsz
  by_cases h0 : s.size = 0
  · have hnil : s.data.toList = [] := List.eq_nil_of_length_eq_zero (by rw [hsz]; exact h0)
    have he : s.toList.isEmpty = true := by rw [toList_data, hnil]; rfl
    have hok : pdRes s.data.toList = (0, 8) := by rw [hnil]; rfl
    rw [hok]
    clear hok hsz hnil
    go_enter Tryd.func22, Tryd.ntmps22
    go_wp2
    go_ret2
    exact ⟨rfl, rfl⟩
  · have hpos : 0 < s.size := by omega
    have he : s.toList.isEmpty = false := by
      rw [toList_data]
      cases h : s.data.toList with
      | nil => rw [h] at hsz; simp at hsz; omega
      | cons a b => rfl
    have hgz := getD_zero s hpos
    have hisE : s.data.toList.isEmpty = false := by rw [← toList_data]; exact he
    clear hsz
    by_cases hz : (s[0]'hpos).toNat = 48
    · have hzb : (((s[0]'hpos).toNat : Int) == 48) = true := by simp; omega
      have hz8 : ((s[0]'hpos) == (48 : UInt8)) = true := by rw [beq_iff_eq]; exact UInt8.toNat_inj.1 hz
      by_cases h1 : 1 < s.size
      · have hok : decOk s.data.toList = false := by
          simp only [decOk, hgz, hz8, HSz.out, h1, decide_true, Bool.and_self, Bool.not_true, Bool.and_false, Bool.false_and]
        have hpr : pdRes s.data.toList = (0, 8) := by unfold pdRes; rw [if_neg (by rw [hok]; decide)]
        rw [hpr]
        clear hok hpr hgz hisE hz8 hz
        go_enter Tryd.func22, Tryd.ntmps22
        go_wp2
        go_ret2
        exact ⟨rfl, rfl⟩
      · have hD : s.data.toList.all digB = true → decOk s.data.toList = true := by
          intro ha
          simp only [decOk, ha, hisE, HSz.out, h1, decide_false, Bool.and_false, Bool.not_false, Bool.and_self]
        have HD := Lib.hid hD
        have h1' : s.size ≤ 1 := by omega
        clear hD hgz hisE hz8 hz h1
        go_enter Tryd.func22, Tryd.ntmps22
        go_wp2
        go_loop [4, 5, 6, 7] (fun vn vo i _ => ∃ (k : Nat) (v : Int) (o : Bool), k ≤ s.size ∧ i = .int .i64 k ∧ vn = .int .u64 v ∧ vo = .bool o ∧ Hid (RdInv s.data.toList k v o)) (fun _ _ i _ => s.size - (intOf i).toNat)
        case atStart => exact ⟨0, 0, false, Nat.zero_le _, rfl, rfl, rfl, rd_start _⟩
        case round =>
          obtain ⟨k, v, o, hk, rfl, rfl, rfl, HI⟩ := hrel
          by_cases hlt : k < s.size
          · have hlt' : k < s.data.toList.length := by rw [HSz.out]; exact hlt
            have hbk : s.data.toList[k].toNat = (s[k]'hlt).toNat := rfl
            by_cases h48 : (48 : Int) ≤ ((s[k]'hlt).toNat : Int)
            · by_cases h57 : ((s[k]'hlt).toNat : Int) ≤ 57
              · have hd : digB s.data.toList[k] = true := by simp only [digB, Bool.and_eq_true, decide_eq_true_eq]; omega
                have hst := rd_step s.data.toList k v o hlt' hd HI.out
                rw [hbk] at hst
                have hv := HI.out.rng
                cases o with
                | true =>
                  have HSt := Lib.hid hst.1
                  clear hst hd hbk hlt' hv
                  go_wp2
                  all_goals
                    go_round
                    case rel => exact ⟨k + 1, _, true, by omega, by go_num, rfl, rfl, HSt.out rfl⟩
                    case measure => simp [intOf]; omega
                | false =>
                  have hsp := hst.2 rfl
                  clear hst
                  by_cases hb : (18446744073709551615 - (((s[k]'hlt).toNat : Int) - 48)) / 10 < v
                  · have HSt := Lib.hid (hsp.1 hb)
                    clear hsp hd hbk hlt' hv
                    go_wp2
                    go_round
                    case rel => exact ⟨k + 1, _, true, by omega, by go_num, rfl, rfl, HSt⟩
                    case measure => simp [intOf]; omega
                  · have hb' : v ≤ (18446744073709551615 - (((s[k]'hlt).toNat : Int) - 48)) / 10 := by omega
                    have HSt := Lib.hid (hsp.2 hb')
                    obtain ⟨hv0, hv1⟩ := hv
                    clear hsp hd hbk hlt' hb hv1
                    go_wp2
                    go_round
                    case rel => exact ⟨k + 1, _, false, by omega, by go_num, rfl, by first | rfl | exact congrArg Value.bool (decide_eq_false (by omega)), HSt⟩
                    case measure => simp [intOf]; omega
              · have hd : digB s.data.toList[k] = false := by simp only [digB, Bool.and_eq_false_iff, decide_eq_false_iff_not]; omega
                have hall := all_false _ k hlt' hd
                have hok : pdRes s.data.toList = (0, 8) := by unfold pdRes; rw [if_neg (by simp only [decOk, hall, Bool.and_false]; decide)]
                have HOk := Lib.hid hok
                clear hd hbk hlt' hall hok HI
                go_wp2
                go_ret2
                exact ⟨by rw [HOk.out]; rfl, rfl⟩
            · have hd : digB s.data.toList[k] = false := by simp only [digB, Bool.and_eq_false_iff, decide_eq_false_iff_not]; omega
              have hall := all_false _ k hlt' hd
              have hok : pdRes s.data.toList = (0, 8) := by unfold pdRes; rw [if_neg (by simp only [decOk, hall, Bool.and_false]; decide)]
              have HOk := Lib.hid hok
              clear hd hbk hlt' hall hok HI
              go_wp2
              go_ret2
              exact ⟨by rw [HOk.out]; rfl, rfl⟩
          · have hkl : k = s.size := by omega
            have hfin := rd_end s.data.toList k v o (by rw [HSz.out]; exact hkl.symm) HD.out HI.out
            clear HI
            subst hkl
            cases o with
            | true =>
              have HFin := Lib.hid hfin
              clear hfin
              go_wp2
              go_ret2
              exact ⟨by rw [HFin.out]; rfl, rfl⟩
            | false =>
              have HFin := Lib.hid hfin
              clear hfin
              go_wp2
              go_ret2
              exact ⟨by rw [HFin.out]; rfl, rfl⟩
    · have hzb : (((s[0]'hpos).toNat : Int) == 48) = false := by simp; omega
      have hz8 : ((s[0]'hpos) == (48 : UInt8)) = false := by
        rw [beq_eq_false_iff_ne]
        intro h
        rw [h] at hz
        exact hz rfl
      have hD : s.data.toList.all digB = true → decOk s.data.toList = true := by
        intro ha
        simp only [decOk, ha, hisE, hgz, hz8, Bool.false_and, Bool.not_false, Bool.and_self]
      have HD := Lib.hid hD
      clear hD hgz hisE hz8 hz
      go_enter Tryd.func22, Tryd.ntmps22
      go_wp2
      go_loop [4, 5, 6, 7] (fun vn vo i _ => ∃ (k : Nat) (v : Int) (o : Bool), k ≤ s.size ∧ i = .int .i64 k ∧ vn = .int .u64 v ∧ vo = .bool o ∧ Hid (RdInv s.data.toList k v o)) (fun _ _ i _ => s.size - (intOf i).toNat)
      case atStart => exact ⟨0, 0, false, Nat.zero_le _, rfl, rfl, rfl, rd_start _⟩
      case round =>
        obtain ⟨k, v, o, hk, rfl, rfl, rfl, HI⟩ := hrel
        by_cases hlt : k < s.size
        · have hlt' : k < s.data.toList.length := by rw [HSz.out]; exact hlt
          have hbk : s.data.toList[k].toNat = (s[k]'hlt).toNat := rfl
          by_cases h48 : (48 : Int) ≤ ((s[k]'hlt).toNat : Int)
          · by_cases h57 : ((s[k]'hlt).toNat : Int) ≤ 57
            · have hd : digB s.data.toList[k] = true := by simp only [digB, Bool.and_eq_true, decide_eq_true_eq]; omega
              have hst := rd_step s.data.toList k v o hlt' hd HI.out
              rw [hbk] at hst
              have hv := HI.out.rng
              cases o with
              | true =>
                have HSt := Lib.hid hst.1
                clear hst hd hbk hlt' hv
                go_wp2
                all_goals
                  go_round
                  case rel => exact ⟨k + 1, _, true, by omega, by go_num, rfl, rfl, HSt.out rfl⟩
                  case measure => simp [intOf]; omega
              | false =>
                have hsp := hst.2 rfl
                clear hst
                by_cases hb : (18446744073709551615 - (((s[k]'hlt).toNat : Int) - 48)) / 10 < v
                · have HSt := Lib.hid (hsp.1 hb)
                  clear hsp hd hbk hlt' hv
                  go_wp2
                  go_round
                  case rel => exact ⟨k + 1, _, true, by omega, by go_num, rfl, rfl, HSt⟩
                  case measure => simp [intOf]; omega
                · have hb' : v ≤ (18446744073709551615 - (((s[k]'hlt).toNat : Int) - 48)) / 10 := by omega
                  have HSt := Lib.hid (hsp.2 hb')
                  obtain ⟨hv0, hv1⟩ := hv
                  clear hsp hd hbk hlt' hb hv1
                  go_wp2
                  go_round
                  case rel => exact ⟨k + 1, _, false, by omega, by go_num, rfl, by first | rfl | exact congrArg Value.bool (decide_eq_false (by omega)), HSt⟩
                  case measure => simp [intOf]; omega
            · have hd : digB s.data.toList[k] = false := by simp only [digB, Bool.and_eq_false_iff, decide_eq_false_iff_not]; omega
              have hall := all_false _ k hlt' hd
              have hok : pdRes s.data.toList = (0, 8) := by unfold pdRes; rw [if_neg (by simp only [decOk, hall, Bool.and_false]; decide)]
              have HOk := Lib.hid hok
              clear hd hbk hlt' hall hok HI
              go_wp2
              go_ret2
              exact ⟨by rw [HOk.out]; rfl, rfl⟩
          · have hd : digB s.data.toList[k] = false := by simp only [digB, Bool.and_eq_false_iff, decide_eq_false_iff_not]; omega
            have hall := all_false _ k hlt' hd
            have hok : pdRes s.data.toList = (0, 8) := by unfold pdRes; rw [if_neg (by simp only [decOk, hall, Bool.and_false]; decide)]
            have HOk := Lib.hid hok
            clear hd hbk hlt' hall hok HI
            go_wp2
            go_ret2
            exact ⟨by rw [HOk.out]; rfl, rfl⟩
        · have hkl : k = s.size := by omega
          have hfin := rd_end s.data.toList k v o (by rw [HSz.out]; exact hkl.symm) HD.out HI.out
          clear HI
          subst hkl
          cases o with
          | true =>
            have HFin := Lib.hid hfin
            clear hfin
            go_wp2
            go_ret2
            exact ⟨by rw [HFin.out]; rfl, rfl⟩
          | false =>
            have HFin := Lib.hid hfin
            clear hfin
            go_wp2
            go_ret2
            exact ⟨by rw [HFin.out]; rfl, rfl⟩
end Go.Proofs.YtcafenmkcjlhgaaDoor
