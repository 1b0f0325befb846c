/- CodecHex: the walk. -/
import Derived.Test.YtcafenmkcjlhgaaDoorRef6
import Derived.Test.YtcafenmkcjlhgaaDoorWorks
import Derived.Test.YtcafenmkcjlhgaaDoorFrame
namespace Go.Proofs.YtcafenmkcjlhgaaDoor
open Go Go.RowKit

theorem rParseHex_ok (s : ByteArray) (w : World) (hl : s.size ≤ 1000000) (hok : phOk (numS s) = true) :
    Calls Tryd.prog 18 #[.string s] w fun e w' => ∃ p n c, e = .returned (.tuple #[.slice p n c, .int .i64 0]) ∧ Sl w' p n c (phV (numS s)) ∧ Below w.heap.size w w' :=
  (rParseHex_any s w hl).mono fun e w' h => by
    obtain ⟨hb, h | h⟩ := h
    · obtain ⟨_, p, n, c, he, hs⟩ := h
      exact ⟨p, n, c, he, hs, hb⟩
    · rw [hok] at h; cases h.1

theorem rParseHex_bad (s : ByteArray) (w : World) (hl : s.size ≤ 1000000) (hok : phOk (numS s) = false) :
    Calls Tryd.prog 18 #[.string s] w fun e w' => e = .returned (.tuple #[.slice none 0 0, .int .i64 8]) ∧ Below w.heap.size w w' :=
  (rParseHex_any s w hl).mono fun e w' h => by
    obtain ⟨hb, h | h⟩ := h
    · rw [hok] at h; cases h.1
    · exact ⟨h.2, hb⟩

set_option maxHeartbeats 3200000 in
set_option maxRecDepth 100000 in
theorem hex_law_sl (p : Option Addr) (len cap : Nat) (l : List Int) (s : ByteArray) (w : World) (h : Laid w) (hS : Sl w p len cap l) (_ : s.size ≤ maxLen) :
    Calls Tryd.prog 4 #[.slice p len cap, .string s] w fun e w' => e = .returned (.bool true) ∧ Below w.heap.size w w' := by
  have HL := Lib.hid h
  have HS := Lib.hid hS
  clear h hS
  by_cases h1 : 1000 < len
  · go_enter Tryd.func4, Tryd.ntmps4
    go_wp2_with fail
    refine (works_any _ HL.out).mono ?_
    rintro e w1 ⟨rfl, hb⟩
    go_wp2_with fail
    go_ret
    exact ⟨rfl, hb⟩
  by_cases h2 : 1000 < s.size
  · go_enter Tryd.func4, Tryd.ntmps4
    go_wp2_with fail
    refine (works_any _ HL.out).mono ?_
    rintro e w1 ⟨rfl, hb⟩
    go_wp2_with fail
    go_ret
    exact ⟨rfl, hb⟩
  generalize ht : strI (hexI l) = t
  have HT := Lib.hid ht
  clear ht
  cases hok : phOk (numS s) with
  | true =>
    have HO := Lib.hid hok
    clear hok
    go_enter Tryd.func4, Tryd.ntmps4
    go_wp2_with fail
    refine (ParseHex_ok s _ (by omega) HO.out).mono ?_
    rintro e w1 ⟨p1, n1, c1, rfl, hs1, hb1⟩
    have HL1 := Lib.hid (HL.out.below hb1)
    have HS1 := Lib.hid (HS.out.below hb1)
    have HB1 := Lib.hid hb1
    have HX1 := Lib.hid hs1
    clear hb1 hs1
    go_wp2_with fail
    refine (rParseHex_ok s _ (by omega) HO.out).mono ?_
    rintro e w2 ⟨p2, n2, c2, rfl, hs2, hb2⟩
    have HL2 := Lib.hid (HL1.out.below hb2)
    have HS2 := Lib.hid (HS1.out.below hb2)
    have HB2 := Lib.hid (HB1.out.trans (hb2.mono HB1.out.size))
    have HX2 := Lib.hid (HX1.out.below hb2)
    have HY2 := Lib.hid hs2
    clear hb2 hs2 HL1 HS1 HB1 HX1
    have hx := Hex_c _ HS2.out (by omega)
    rw [HT.out] at hx
    have HX := Lib.hid hx
    clear hx
    go_wp2_with fail
    refine HX.out.mono ?_
    rintro e w3 ⟨rfl, hb3⟩
    have HL3 := Lib.hid (HL2.out.below hb3)
    have HS3 := Lib.hid (HS2.out.below hb3)
    have HB3 := Lib.hid (HB2.out.trans (hb3.mono HB2.out.size))
    have HX3 := Lib.hid (HX2.out.below hb3)
    have HY3 := Lib.hid (HY2.out.below hb3)
    clear hb3 HL2 HS2 HB2 HX2 HY2 HX
    have hx := rHex_any _ _ _ _ _ (by omega) HS3.out
    rw [HT.out] at hx
    have HX := Lib.hid hx
    clear hx
    go_wp2_with fail
    refine HX.out.mono ?_
    rintro e w4 ⟨rfl, hb4⟩
    have HL4 := Lib.hid (HL3.out.below hb4)
    have HB4 := Lib.hid (HB3.out.trans (hb4.mono HB3.out.size))
    have HX4 := Lib.hid (HX3.out.below hb4)
    have HY4 := Lib.hid (HY3.out.below hb4)
    clear hb4 HL3 HS3 HB3 HX3 HY3 HX
    go_wp2_with fail
    refine (Equal_yes _ HX4.out HY4.out rfl).mono ?_
    rintro e w5 ⟨rfl, rfl⟩
    go_wp2_with fail
    refine (works_any _ HL4.out).mono ?_
    rintro e w5 ⟨rfl, hb5⟩
    go_wp2_with fail
    go_ret
    exact ⟨rfl, HB4.out.trans (hb5.mono HB4.out.size)⟩
  | false =>
    have HO := Lib.hid hok
    clear hok
    go_enter Tryd.func4, Tryd.ntmps4
    go_wp2_with fail
    refine (ParseHex_bad s _ (by omega) HO.out).mono ?_
    rintro e w1 ⟨rfl, hb1⟩
    have HL1 := Lib.hid (HL.out.below hb1)
    have HS1 := Lib.hid (HS.out.below hb1)
    have HB1 := Lib.hid hb1
    clear hb1
    go_wp2_with fail
    refine (rParseHex_bad s _ (by omega) HO.out).mono ?_
    rintro e w2 ⟨rfl, hb2⟩
    have HL2 := Lib.hid (HL1.out.below hb2)
    have HS2 := Lib.hid (HS1.out.below hb2)
    have HB2 := Lib.hid (HB1.out.trans (hb2.mono HB1.out.size))
    clear hb2 HL1 HS1 HB1
    have hx := Hex_c _ HS2.out (by omega)
    rw [HT.out] at hx
    have HX := Lib.hid hx
    clear hx
    go_wp2_with fail
    refine HX.out.mono ?_
    rintro e w3 ⟨rfl, hb3⟩
    have HL3 := Lib.hid (HL2.out.below hb3)
    have HS3 := Lib.hid (HS2.out.below hb3)
    have HB3 := Lib.hid (HB2.out.trans (hb3.mono HB2.out.size))
    clear hb3 HL2 HS2 HB2 HX
    have hx := rHex_any _ _ _ _ _ (by omega) HS3.out
    rw [HT.out] at hx
    have HX := Lib.hid hx
    clear hx
    go_wp2_with fail
    refine HX.out.mono ?_
    rintro e w4 ⟨rfl, hb4⟩
    have HL4 := Lib.hid (HL3.out.below hb4)
    have HB4 := Lib.hid (HB3.out.trans (hb4.mono HB3.out.size))
    clear hb4 HL3 HS3 HB3 HX
    go_wp2_with fail
    refine (Equal_yes _ (sl_nil _) (sl_nil _) rfl).mono ?_
    rintro e w5 ⟨rfl, rfl⟩
    go_wp2_with fail
    refine (works_any _ HL4.out).mono ?_
    rintro e w5 ⟨rfl, hb5⟩
    go_wp2_with fail
    go_ret
    exact ⟨rfl, HB4.out.trans (hb5.mono HB4.out.size)⟩

theorem hex_law (a : Option Addr) (len cap : Nat) (zs : List Int) (s : ByteArray) (w : World) (h : Laid w) (w0 : IsRow .u8 w a len cap zs) (hs : s.size ≤ maxLen) :
    Calls Tryd.prog 4 #[.slice a len cap, .string s] w fun e w' => e = .returned (.bool true) ∧ Below w.heap.size w w' :=
  hex_law_sl a len cap _ s w h (isRow_sl w0).1 hs
end Go.Proofs.YtcafenmkcjlhgaaDoor
