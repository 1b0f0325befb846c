/- CodecDigitsBack: the walk. -/
import Derived.Test.YtcafenmkcjlhgabDoorWorks
import Derived.Test.YtcafenmkcjlhgabDoorFrame
import Derived.Test.YtcafenmkcjlhgabDoorMath4
namespace Go.Proofs.YtcafenmkcjlhgabDoor
open Go Go.RowKit

set_option maxHeartbeats 3200000 in
set_option maxRecDepth 100000 in
theorem digitsBack_law (n a : Int) (s : ByteArray) (w : World) (h : Laid w) (wn : (Lit.int .u64 n).wf = true) (wa : (Lit.int .u8 a).wf = true) (_ : s.size ≤ maxLen) :
    Calls Tryd.prog 4 #[.int .u64 n, .int .u8 a, .string s] w fun e w' => e = .returned (.bool true) ∧ Below w.heap.size w w' := by
  have hbn := bounds_u64 wn
  have hba := bounds_u8 wa
  obtain ⟨u, rfl⟩ := Int.eq_ofNat_of_zero_le hbn.1
  obtain ⟨g, rfl⟩ := Int.eq_ofNat_of_zero_le hba.1
  have hu64 : u < 18446744073709551616 := by omega
  have hg : g ≤ 255 := by omega
  have hd : ((g : Int) % 10) = ((g % 10 : Nat) : Int) := by omega
  have hd10 : g % 10 < 10 := Nat.mod_lt _ (by decide)
  generalize g % 10 = d at *
  have HU := Lib.hid hu64
  have HL := Lib.hid h
  have hpd := pd_dec u (by omega)
  obtain ⟨t, ht⟩ : ∃ t : ByteArray, t = ⟨(Lib.decDigits u).toArray⟩ := ⟨_, rfl⟩
  have htl : t.data.toList = Lib.decDigits u := by rw [ht]
  have hts : t.size ≤ 20 := by
    have : t.size = (Lib.decDigits u).length := by rw [ht]; rfl
    rw [this, Lib.decDigits_length]
    exact Lib.nDigits_le20 u hu64
  rw [← htl] at hpd
  have HPd := Lib.hid hpd
  have HT := Lib.hid ht
  have HTl := Lib.hid htl
  have hdig := Digits_c u hu64 w h
  rw [← ht] at hdig
  have HDig := Lib.hid hdig
  clear hu64 h wn wa hbn hba hpd ht htl hdig
  go_enter Tryd.func4, Tryd.ntmps4
  go_wp2_with fail
  refine HDig.out.mono ?_
  rintro e w1 ⟨rfl, hb1⟩
  have HL1 := Lib.hid (HL.out.below hb1)
  have HB1 := Lib.hid hb1
  clear hb1 HDig
  go_wp2_with fail
  refine (ParseDigits_c t u 0 _ HL1.out (by omega) HPd.out).mono ?_
  rintro e w2 ⟨rfl, hb2⟩
  have HL2 := Lib.hid (HL1.out.below hb2)
  have HB2 := Lib.hid (HB1.out.trans (hb2.mono HB1.out.size))
  clear hb2 HL1 HB1 HPd
  have hfu := FormatUint_any u HU.out w2 HL2.out.pt
  rw [← HT.out] at hfu
  have HFu := Lib.hid hfu
  clear hfu
  go_wp2_with fail
  refine HFu.out.mono ?_
  rintro e w3 ⟨rfl, hb3⟩
  have HL3 := Lib.hid (HL2.out.below hb3)
  have HB3 := Lib.hid (HB2.out.trans (hb3.mono HB2.out.size))
  clear hb3 HL2 HB2 HFu
  have hnew := sl_new w3 [48 + (d : Int)] 1 rfl (by intro x hx; rw [List.mem_singleton] at hx; omega) 5
  have hcv : (convert 22 9 (.slice (some ⟨w3.heap.size, 0, none⟩) 1 1)).run Tryd.prog (w3.alloc (.cells #[.int .u8 (48 + (d : Int))] 5)) = .ok (.string (strOfNums [48 + (d : Int)])) (w3.alloc (.cells #[.int .u8 (48 + (d : Int))] 5)) :=
    Lib.BytesIn.convert (P := Tryd.prog) hnew.bytes hnew.len 1 22 5 9 Tryd.underlying22 Tryd.underlying5 Tryd.underlying9
  have hb4 : Below w3.heap.size w3 (w3.alloc (.cells #[.int .u8 (48 + (d : Int))] 5)) := (Below.refl _ _).alloc (Nat.le_refl _) _
  have HL4 := Lib.hid (HL3.out.below hb4)
  have HB4 := Lib.hid (HB3.out.trans (hb4.mono HB3.out.size))
  clear hnew hb4 HL3 HB3
  obtain ⟨sd, hsd⟩ : ∃ sd, sd = strOfNums [48 + (d : Int)] := ⟨_, rfl⟩
  rw [← hsd] at hcv
  have hsd1 : sd.size ≤ 1 := by rw [hsd]; exact Nat.le_refl 1
  have hcat : (t ++ sd).data.toList = Lib.decDigits u ++ [UInt8.ofNat (48 + d)] := by
    have e : sd.data.toList = [UInt8.ofNat (48 + d)] := by rw [hsd]; rfl
    rw [← HTl.out, ← e]
    simp [ByteArray.data_append]
  have hts2 : (t ++ sd).size ≤ 21 := by rw [ByteArray.size_append]; omega
  have hpm := pd_more u d hd10
  rw [← hcat] at hpm
  have HPm := Lib.hid hpm
  have HTs := Lib.hid hts2
  clear hsd hcat hts2 hpm
  by_cases h0 : u = 0
  · have hp : pdRes (t ++ sd).data.toList = (0, 8) := by rw [HPm.out, if_pos h0]
    have h0b : ((u : Int) == 0) = true := by rw [beq_iff_eq]; omega
    have HP := Lib.hid hp
    clear hp HPm h0
    go_wp2_with fail
    refine (ParseDigits_c (t ++ sd) 0 8 _ HL4.out (by have := HTs.out; omega) HP.out).mono ?_
    rintro e w5 ⟨rfl, hb5⟩
    have HL5 := Lib.hid (HL4.out.below hb5)
    have HB5 := Lib.hid (HB4.out.trans (hb5.mono HB4.out.size))
    clear hb5 HL4 HB4 HP
    by_cases h300 : s.size ≤ 300
    · cases hdo : decOk s.data.toList with
      | true =>
        by_cases hle : decN 0 s.data.toList ≤ 18446744073709551615
        · have hp2 : pdRes s.data.toList = (((decN 0 s.data.toList : Nat) : Int), 0) := by unfold pdRes; rw [if_pos hdo, if_pos hle]
          have hdb := dec_back s.data.toList hdo
          have HP2 := Lib.hid hp2
          have HLe := Lib.hid hle
          have HDb := Lib.hid hdb
          clear hp2 hdo hle hdb
          generalize decN 0 s.data.toList = q at *
          go_wp2_with fail
          refine (ParseDigits_c s q 0 _ HL5.out (by omega) HP2.out).mono ?_
          rintro e w6 ⟨rfl, hb6⟩
          have HL6 := Lib.hid (HL5.out.below hb6)
          have HB6 := Lib.hid (HB5.out.trans (hb6.mono HB5.out.size))
          have hdg := Digits_c q (by have := HLe.out; omega) _ HL6.out
          rw [HDb.out, show (⟨s.data.toList.toArray⟩ : ByteArray) = s from rfl] at hdg
          have HDg := Lib.hid hdg
          clear hb6 hdg HL5 HB5
          go_wp2_with fail
          refine HDg.out.mono ?_
          rintro e w7 ⟨rfl, hb7⟩
          have HL7 := Lib.hid (HL6.out.below hb7)
          have HB7 := Lib.hid (HB6.out.trans (hb7.mono HB6.out.size))
          clear hb7 HL6 HB6 HDg
          go_wp2_with fail
          refine (works_any _ HL7.out).mono ?_
          rintro e w8 ⟨rfl, hb8⟩
          go_wp2_with fail
          go_ret
          exact ⟨rfl, HB7.out.trans (hb8.mono HB7.out.size)⟩
        · have hp2 : pdRes s.data.toList = (0, 16) := by unfold pdRes; rw [if_pos hdo, if_neg hle]
          have HP2 := Lib.hid hp2
          clear hp2 hdo hle
          go_wp2_with fail
          refine (ParseDigits_c s 0 16 _ HL5.out (by omega) HP2.out).mono ?_
          rintro e w6 ⟨rfl, hb6⟩
          have HL6 := Lib.hid (HL5.out.below hb6)
          have HB6 := Lib.hid (HB5.out.trans (hb6.mono HB5.out.size))
          clear hb6 HL5 HB5
          go_wp2_with fail
          refine (works_any _ HL6.out).mono ?_
          rintro e w8 ⟨rfl, hb8⟩
          go_wp2_with fail
          go_ret
          exact ⟨rfl, HB6.out.trans (hb8.mono HB6.out.size)⟩
      | false =>
        have hp2 : pdRes s.data.toList = (0, 8) := by unfold pdRes; rw [if_neg (by rw [hdo]; decide)]
        have HP2 := Lib.hid hp2
        clear hp2 hdo
        go_wp2_with fail
        refine (ParseDigits_c s 0 8 _ HL5.out (by omega) HP2.out).mono ?_
        rintro e w6 ⟨rfl, hb6⟩
        have HL6 := Lib.hid (HL5.out.below hb6)
        have HB6 := Lib.hid (HB5.out.trans (hb6.mono HB5.out.size))
        clear hb6 HL5 HB5
        go_wp2_with fail
        refine (works_any _ HL6.out).mono ?_
        rintro e w8 ⟨rfl, hb8⟩
        go_wp2_with fail
        go_ret
        exact ⟨rfl, HB6.out.trans (hb8.mono HB6.out.size)⟩
    · go_wp2_with fail
      refine (works_any _ HL5.out).mono ?_
      rintro e w8 ⟨rfl, hb8⟩
      go_wp2_with fail
      go_ret
      exact ⟨rfl, HB5.out.trans (hb8.mono HB5.out.size)⟩
  · have h0b : ((u : Int) == 0) = false := by rw [beq_eq_false_iff_ne]; omega
    by_cases hbig : 10 * u + d ≤ 18446744073709551615
    · have hp : pdRes (t ++ sd).data.toList = (((10 * u + d : Nat) : Int), 0) := by rw [HPm.out, if_neg h0, if_pos hbig]
      have HP := Lib.hid hp
      have hlim : (u : Int) ≤ (18446744073709551615 - (d : Int)) / 10 := by omega
      clear hp hbig HPm h0
      go_wp2_with fail
      refine (ParseDigits_c (t ++ sd) _ 0 _ HL4.out (by have := HTs.out; omega) HP.out).mono ?_
      rintro e w5 ⟨rfl, hb5⟩
      have HL5 := Lib.hid (HL4.out.below hb5)
      have HB5 := Lib.hid (HB4.out.trans (hb5.mono HB4.out.size))
      clear hb5 HL4 HB4 HP
      by_cases h300 : s.size ≤ 300
      · cases hdo : decOk s.data.toList with
        | true =>
          by_cases hle : decN 0 s.data.toList ≤ 18446744073709551615
          · have hp2 : pdRes s.data.toList = (((decN 0 s.data.toList : Nat) : Int), 0) := by unfold pdRes; rw [if_pos hdo, if_pos hle]
            have hdb := dec_back s.data.toList hdo
            have HP2 := Lib.hid hp2
            have HLe := Lib.hid hle
            have HDb := Lib.hid hdb
            clear hp2 hdo hle hdb
            generalize decN 0 s.data.toList = q at *
            go_wp2_with fail
            refine (ParseDigits_c s q 0 _ HL5.out (by omega) HP2.out).mono ?_
            rintro e w6 ⟨rfl, hb6⟩
            have HL6 := Lib.hid (HL5.out.below hb6)
            have HB6 := Lib.hid (HB5.out.trans (hb6.mono HB5.out.size))
            have hdg := Digits_c q (by have := HLe.out; omega) _ HL6.out
            rw [HDb.out, show (⟨s.data.toList.toArray⟩ : ByteArray) = s from rfl] at hdg
            have HDg := Lib.hid hdg
            clear hb6 hdg HL5 HB5
            go_wp2_with fail
            refine HDg.out.mono ?_
            rintro e w7 ⟨rfl, hb7⟩
            have HL7 := Lib.hid (HL6.out.below hb7)
            have HB7 := Lib.hid (HB6.out.trans (hb7.mono HB6.out.size))
            clear hb7 HL6 HB6 HDg
            go_wp2_with fail
            refine (works_any _ HL7.out).mono ?_
            rintro e w8 ⟨rfl, hb8⟩
            go_wp2_with fail
            go_ret
            exact ⟨rfl, HB7.out.trans (hb8.mono HB7.out.size)⟩
          · have hp2 : pdRes s.data.toList = (0, 16) := by unfold pdRes; rw [if_pos hdo, if_neg hle]
            have HP2 := Lib.hid hp2
            clear hp2 hdo hle
            go_wp2_with fail
            refine (ParseDigits_c s 0 16 _ HL5.out (by omega) HP2.out).mono ?_
            rintro e w6 ⟨rfl, hb6⟩
            have HL6 := Lib.hid (HL5.out.below hb6)
            have HB6 := Lib.hid (HB5.out.trans (hb6.mono HB5.out.size))
            clear hb6 HL5 HB5
            go_wp2_with fail
            refine (works_any _ HL6.out).mono ?_
            rintro e w8 ⟨rfl, hb8⟩
            go_wp2_with fail
            go_ret
            exact ⟨rfl, HB6.out.trans (hb8.mono HB6.out.size)⟩
        | false =>
          have hp2 : pdRes s.data.toList = (0, 8) := by unfold pdRes; rw [if_neg (by rw [hdo]; decide)]
          have HP2 := Lib.hid hp2
          clear hp2 hdo
          go_wp2_with fail
          refine (ParseDigits_c s 0 8 _ HL5.out (by omega) HP2.out).mono ?_
          rintro e w6 ⟨rfl, hb6⟩
          have HL6 := Lib.hid (HL5.out.below hb6)
          have HB6 := Lib.hid (HB5.out.trans (hb6.mono HB5.out.size))
          clear hb6 HL5 HB5
          go_wp2_with fail
          refine (works_any _ HL6.out).mono ?_
          rintro e w8 ⟨rfl, hb8⟩
          go_wp2_with fail
          go_ret
          exact ⟨rfl, HB6.out.trans (hb8.mono HB6.out.size)⟩
      · go_wp2_with fail
        refine (works_any _ HL5.out).mono ?_
        rintro e w8 ⟨rfl, hb8⟩
        go_wp2_with fail
        go_ret
        exact ⟨rfl, HB5.out.trans (hb8.mono HB5.out.size)⟩
    · have hp : pdRes (t ++ sd).data.toList = (0, 16) := by rw [HPm.out, if_neg h0, if_neg hbig]
      have HP := Lib.hid hp
      have hlim : (18446744073709551615 - (d : Int)) / 10 < (u : Int) := by omega
      clear hp hbig HPm h0
      go_wp2_with fail
      refine (ParseDigits_c (t ++ sd) 0 16 _ HL4.out (by have := HTs.out; omega) HP.out).mono ?_
      rintro e w5 ⟨rfl, hb5⟩
      have HL5 := Lib.hid (HL4.out.below hb5)
      have HB5 := Lib.hid (HB4.out.trans (hb5.mono HB4.out.size))
      clear hb5 HL4 HB4 HP
      by_cases h300 : s.size ≤ 300
      · cases hdo : decOk s.data.toList with
        | true =>
          by_cases hle : decN 0 s.data.toList ≤ 18446744073709551615
          · have hp2 : pdRes s.data.toList = (((decN 0 s.data.toList : Nat) : Int), 0) := by unfold pdRes; rw [if_pos hdo, if_pos hle]
            have hdb := dec_back s.data.toList hdo
            have HP2 := Lib.hid hp2
            have HLe := Lib.hid hle
            have HDb := Lib.hid hdb
            clear hp2 hdo hle hdb
            generalize decN 0 s.data.toList = q at *
            go_wp2_with fail
            refine (ParseDigits_c s q 0 _ HL5.out (by omega) HP2.out).mono ?_
            rintro e w6 ⟨rfl, hb6⟩
            have HL6 := Lib.hid (HL5.out.below hb6)
            have HB6 := Lib.hid (HB5.out.trans (hb6.mono HB5.out.size))
            have hdg := Digits_c q (by have := HLe.out; omega) _ HL6.out
            rw [HDb.out, show (⟨s.data.toList.toArray⟩ : ByteArray) = s from rfl] at hdg
            have HDg := Lib.hid hdg
            clear hb6 hdg HL5 HB5
            go_wp2_with fail
            refine HDg.out.mono ?_
            rintro e w7 ⟨rfl, hb7⟩
            have HL7 := Lib.hid (HL6.out.below hb7)
            have HB7 := Lib.hid (HB6.out.trans (hb7.mono HB6.out.size))
            clear hb7 HL6 HB6 HDg
            go_wp2_with fail
            refine (works_any _ HL7.out).mono ?_
            rintro e w8 ⟨rfl, hb8⟩
            go_wp2_with fail
            go_ret
            exact ⟨rfl, HB7.out.trans (hb8.mono HB7.out.size)⟩
          · have hp2 : pdRes s.data.toList = (0, 16) := by unfold pdRes; rw [if_pos hdo, if_neg hle]
            have HP2 := Lib.hid hp2
            clear hp2 hdo hle
            go_wp2_with fail
            refine (ParseDigits_c s 0 16 _ HL5.out (by omega) HP2.out).mono ?_
            rintro e w6 ⟨rfl, hb6⟩
            have HL6 := Lib.hid (HL5.out.below hb6)
            have HB6 := Lib.hid (HB5.out.trans (hb6.mono HB5.out.size))
            clear hb6 HL5 HB5
            go_wp2_with fail
            refine (works_any _ HL6.out).mono ?_
            rintro e w8 ⟨rfl, hb8⟩
            go_wp2_with fail
            go_ret
            exact ⟨rfl, HB6.out.trans (hb8.mono HB6.out.size)⟩
        | false =>
          have hp2 : pdRes s.data.toList = (0, 8) := by unfold pdRes; rw [if_neg (by rw [hdo]; decide)]
          have HP2 := Lib.hid hp2
          clear hp2 hdo
          go_wp2_with fail
          refine (ParseDigits_c s 0 8 _ HL5.out (by omega) HP2.out).mono ?_
          rintro e w6 ⟨rfl, hb6⟩
          have HL6 := Lib.hid (HL5.out.below hb6)
          have HB6 := Lib.hid (HB5.out.trans (hb6.mono HB5.out.size))
          clear hb6 HL5 HB5
          go_wp2_with fail
          refine (works_any _ HL6.out).mono ?_
          rintro e w8 ⟨rfl, hb8⟩
          go_wp2_with fail
          go_ret
          exact ⟨rfl, HB6.out.trans (hb8.mono HB6.out.size)⟩
      · go_wp2_with fail
        refine (works_any _ HL5.out).mono ?_
        rintro e w8 ⟨rfl, hb8⟩
        go_wp2_with fail
        go_ret
        exact ⟨rfl, HB5.out.trans (hb8.mono HB5.out.size)⟩
end Go.Proofs.YtcafenmkcjlhgabDoor
