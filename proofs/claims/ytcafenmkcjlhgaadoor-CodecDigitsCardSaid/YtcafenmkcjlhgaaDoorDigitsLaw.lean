/- CodecDigits: the walk. -/
import Derived.Test.YtcafenmkcjlhgaaDoorRef3
import Derived.Test.YtcafenmkcjlhgaaDoorRef4
import Derived.Test.YtcafenmkcjlhgaaDoorWorks
import Derived.Test.YtcafenmkcjlhgaaDoorFrame
namespace Go.Proofs.YtcafenmkcjlhgaaDoor
open Go Go.RowKit

set_option maxHeartbeats 3200000 in
set_option maxRecDepth 100000 in
theorem digits_law (n : Int) (s : ByteArray) (w : World) (h : Laid w) (wn : (Lit.int .u64 n).wf = true) (hs : s.size ≤ maxLen) :
    Calls Tryd.prog 5 #[.int .u64 n, .string s] w fun e w' => e = .returned (.bool true) ∧ Below w.heap.size w w' := by
  have hbn := bounds_u64 wn
  obtain ⟨u, rfl⟩ := Int.eq_ofNat_of_zero_le hbn.1
  have hu64 : u < 18446744073709551616 := by omega
  have HU := Lib.hid hu64
  have HL := Lib.hid h
  clear h wn hbn hu64
  by_cases hbig : 1000 < s.size
  · go_enter Tryd.func5, Tryd.ntmps5
    go_wp2_with fail
    refine (works_any _ HL.out).mono ?_
    rintro e w1 ⟨rfl, hb⟩
    go_wp2_with fail
    go_ret
    exact ⟨rfl, hb⟩
  · obtain ⟨x, y, hxy⟩ : ∃ x y, pdRes s.data.toList = (x, y) := ⟨_, _, rfl⟩
    have hrp : ∀ w, Calls Tryd.prog 22 #[.string s] w fun e w' => e = .returned (.tuple #[.int .u64 x, .int .i64 y]) ∧ w = w' := by
      intro w
      have := rParseDigits_any s w hs
      rw [hxy] at this
      exact this
    have HXy := Lib.hid hxy
    have HRp := Lib.hid hrp
    clear hxy hrp
    obtain ⟨t, ht⟩ : ∃ t : ByteArray, t = ⟨(Lib.decDigits u).toArray⟩ := ⟨_, rfl⟩
    have HT := Lib.hid ht
    clear ht
    go_enter Tryd.func5, Tryd.ntmps5
    go_wp2_with fail
    refine (ParseDigits_c s x y _ HL.out (by omega) HXy.out).mono ?_
    rintro e w1 ⟨rfl, hb1⟩
    have HL1 := Lib.hid (HL.out.below hb1)
    have HB1 := Lib.hid hb1
    clear hb1
    go_wp2_with fail
    refine (HRp.out _).mono ?_
    rintro e w2 ⟨rfl, rfl⟩
    have hdg := Digits_c u HU.out _ HL1.out
    rw [← HT.out] at hdg
    have HDg := Lib.hid hdg
    clear hdg
    go_wp2_with fail
    refine HDg.out.mono ?_
    rintro e w2 ⟨rfl, hb2⟩
    have HL2 := Lib.hid (HL1.out.below hb2)
    have HB2 := Lib.hid (HB1.out.trans (hb2.mono HB1.out.size))
    clear hb2 HL1 HB1 HDg
    have hrd := rDigits_c u w2 HU.out
    rw [← HT.out] at hrd
    have HRd := Lib.hid hrd
    clear hrd
    go_wp2_with fail
    refine HRd.out.mono ?_
    rintro e w3 ⟨rfl, rfl⟩
    go_wp2_with fail
    refine (works_any _ HL2.out).mono ?_
    rintro e w3 ⟨rfl, hb3⟩
    go_wp2_with fail
    go_ret
    exact ⟨rfl, HB2.out.trans (hb3.mono HB2.out.size)⟩
end Go.Proofs.YtcafenmkcjlhgaaDoor
