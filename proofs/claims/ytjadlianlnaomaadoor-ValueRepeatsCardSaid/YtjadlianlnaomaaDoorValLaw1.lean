/- ValueChecks, ValueTexts, ValueRepeats, ValueShorts, ValueLarge: the walks, over the contracts of package value. -/
import Derived.Test.YtjadlianlnaomaaDoorValApi
namespace Go.Proofs.YtjadlianlnaomaaDoor
open Go Go.RowKit

set_option maxHeartbeats 1600000 in
set_option maxRecDepth 100000 in
theorem valueChecks_any {L : World → Prop} (H : ValOk L) (s : ByteArray) (m : Int) (w : World) (h : L w) (h0 : -9223372036854775808 ≤ m) (h1 : m ≤ 9223372036854775807) :
    Calls Tryd.prog 3 #[.string s, .int .i64 m] w fun e w' => e = .returned (.bool true) ∧ Below w.heap.size w w' := by
  have HL := Lib.hid h
  have HH := Lib.hid H
  clear h H
  by_cases hbig : 2000 < s.size
  · go_enter Tryd.func3, Tryd.ntmps3
    go_wp2_with fail
    refine (works6_any HH.out _ HL.out).mono ?_
    rintro e w1 ⟨rfl, hb⟩
    go_wp2_with fail
    go_ret
    exact ⟨rfl, hb⟩
  · go_enter Tryd.func3, Tryd.ntmps3
    go_wp2_with fail
    refine (HH.out.check s m _ (by omega) h0 h1 HL.out).mono ?_
    rintro e w1 ⟨rfl, hb⟩
    have HL1 := Lib.hid (HH.out.below _ _ HL.out hb)
    have HB1 := Lib.hid hb
    clear hb HL
    go_wp2_with fail
    refine (rvCheck_any s m _).mono ?_
    rintro e w2 ⟨rfl, rfl⟩
    generalize vCheck s.size m = c at *
    go_wp2_with fail
    refine (works6_any HH.out _ HL1.out).mono ?_
    rintro e w3 ⟨rfl, hb⟩
    go_wp2_with fail
    go_ret
    exact ⟨rfl, below_then2 HB1.out hb⟩

set_option maxHeartbeats 1600000 in
set_option maxRecDepth 100000 in
theorem valueTexts_any {L : World → Prop} (H : ValOk L) (s t : ByteArray) (w : World) (h : L w) :
    Calls Tryd.prog 4 #[.string s, .string t] w fun e w' => e = .returned (.bool true) ∧ Below w.heap.size w w' := by
  have HL := Lib.hid h
  have HH := Lib.hid H
  clear h H
  by_cases hbig : 2000 < s.size
  · go_enter Tryd.func4, Tryd.ntmps4
    go_wp2_with fail
    refine (works6_any HH.out _ HL.out).mono ?_
    rintro e w1 ⟨rfl, hb⟩
    go_wp2_with fail
    go_ret
    exact ⟨rfl, hb⟩
  by_cases hbig2 : 2000 < t.size
  · go_enter Tryd.func4, Tryd.ntmps4
    go_wp2_with fail
    refine (works6_any HH.out _ HL.out).mono ?_
    rintro e w1 ⟨rfl, hb⟩
    go_wp2_with fail
    go_ret
    exact ⟨rfl, hb⟩
  · go_enter Tryd.func4, Tryd.ntmps4
    go_wp2_with fail
    refine (HH.out.text s _ (by omega) HL.out).mono ?_
    rintro e w1 ⟨rfl, hb⟩
    have HL1 := Lib.hid (HH.out.below _ _ HL.out hb)
    have HB1 := Lib.hid hb
    clear hb HL
    go_wp2_with fail
    refine (rvText_any s _ (by omega)).mono ?_
    rintro e w2 ⟨rfl, hb⟩
    have HL2 := Lib.hid (HH.out.below _ _ HL1.out hb)
    have HB2 := Lib.hid (below_then2 HB1.out hb)
    clear hb HL1 HB1
    generalize vTextS s = a at *
    generalize vTextE s = b at *
    go_wp2_with fail
    refine (HH.out.parse t _ (by omega) HL2.out).mono ?_
    rintro e w3 ⟨rfl, hb⟩
    have HL3 := Lib.hid (HH.out.below _ _ HL2.out hb)
    have HB3 := Lib.hid (below_then2 HB2.out hb)
    clear hb HL2 HB2
    go_wp2_with fail
    refine (rvParse_any t _ (by omega)).mono ?_
    rintro e w4 ⟨rfl, hb⟩
    have HL4 := Lib.hid (HH.out.below _ _ HL3.out hb)
    have HB4 := Lib.hid (below_then2 HB3.out hb)
    clear hb HL3 HB3
    generalize vParse t = q at *
    obtain ⟨q1, q2⟩ := q
    go_wp2_with fail
    refine (works6_any HH.out _ HL4.out).mono ?_
    rintro e w5 ⟨rfl, hb⟩
    go_wp2_with fail
    go_ret
    exact ⟨rfl, below_then2 HB4.out hb⟩

set_option maxHeartbeats 1600000 in
set_option maxRecDepth 100000 in
theorem valueRepeats_any {L : World → Prop} (H : ValOk L) (s : ByteArray) (n : Int) (w : World) (h : L w) (h0 : -9223372036854775808 ≤ n) (h1 : n ≤ 9223372036854775807) :
    Calls Tryd.prog 5 #[.string s, .int .i64 n] w fun e w' => e = .returned (.bool true) ∧ Below w.heap.size w w' := by
  have HL := Lib.hid h
  have HH := Lib.hid H
  clear h H
  by_cases hbig : 2000 < s.size
  · go_enter Tryd.func5, Tryd.ntmps5
    go_wp2_with fail
    refine (works6_any HH.out _ HL.out).mono ?_
    rintro e w1 ⟨rfl, hb⟩
    go_wp2_with fail
    go_ret
    exact ⟨rfl, hb⟩
  · go_enter Tryd.func5, Tryd.ntmps5
    go_wp2_with fail
    refine (HH.out.rep s n _ (by omega) h0 h1 HL.out).mono ?_
    rintro e w1 ⟨rfl, hb⟩
    have HL1 := Lib.hid (HH.out.below _ _ HL.out hb)
    have HB1 := Lib.hid hb
    clear hb HL
    go_wp2_with fail
    refine (rvRepeat_any s n _ (by omega)).mono ?_
    rintro e w2 ⟨rfl, hb⟩
    have HL2 := Lib.hid (HH.out.below _ _ HL1.out hb)
    have HB2 := Lib.hid (below_then2 HB1.out hb)
    clear hb HL1 HB1
    generalize vRepeat s n = q at *
    obtain ⟨q1, q2⟩ := q
    go_wp2_with fail
    refine (works6_any HH.out _ HL2.out).mono ?_
    rintro e w3 ⟨rfl, hb⟩
    go_wp2_with fail
    go_ret
    exact ⟨rfl, below_then2 HB2.out hb⟩

set_option maxHeartbeats 1600000 in
set_option maxRecDepth 100000 in
theorem valueShorts_any {L : World → Prop} (H : ValOk L) (s : ByteArray) (w : World) (h : L w) :
    Calls Tryd.prog 6 #[.string s] w fun e w' => e = .returned (.bool true) ∧ Below w.heap.size w w' := by
  have HL := Lib.hid h
  have HH := Lib.hid H
  clear h H
  by_cases hbig : 2000 < s.size
  · go_enter Tryd.func6, Tryd.ntmps6
    go_wp2_with fail
    refine (works6_any HH.out _ HL.out).mono ?_
    rintro e w1 ⟨rfl, hb⟩
    go_wp2_with fail
    go_ret
    exact ⟨rfl, hb⟩
  · go_enter Tryd.func6, Tryd.ntmps6
    go_wp2_with fail
    refine (HH.out.short s _ (by omega) HL.out).mono ?_
    rintro e w1 ⟨rfl, hb⟩
    have HL1 := Lib.hid (HH.out.below _ _ HL.out hb)
    have HB1 := Lib.hid hb
    clear hb HL
    go_wp2_with fail
    refine (rvShort_any s _ (by omega)).mono ?_
    rintro e w2 ⟨rfl, hb⟩
    have HL2 := Lib.hid (HH.out.below _ _ HL1.out hb)
    have HB2 := Lib.hid (below_then2 HB1.out hb)
    clear hb HL1 HB1
    generalize vShort s = q at *
    go_wp2_with fail
    refine (works6_any HH.out _ HL2.out).mono ?_
    rintro e w3 ⟨rfl, hb⟩
    go_wp2_with fail
    go_ret
    exact ⟨rfl, below_then2 HB2.out hb⟩
end Go.Proofs.YtjadlianlnaomaaDoor
