/- CodecHexBack: the walk. -/
import Derived.Test.YtcafenmkcjlhgabDoorWorks
import Derived.Test.YtcafenmkcjlhgabDoorFrame
import Derived.Test.YtcafenmkcjlhgabDoorApi2
import Derived.WalkSpells
namespace Go.Proofs.YtcafenmkcjlhgabDoor
open Go Go.RowKit

set_option maxHeartbeats 3200000 in
set_option maxRecDepth 100000 in
theorem hexBack_some (x : Addr) (len cap : Nat) ( l : List Int) (k : Nat) (s : ByteArray) (w : World) (h : Laid w) (hS : Sl w (some x) len cap l) (hmin : min ((len : Nat) : Int) 300 = (k : Int)) (_ : s.size ≤ maxLen) :
    Calls Tryd.prog 3 #[.slice (some x) len cap, .string s] w fun e w' => e = .returned (.bool true) ∧ Below w.heap.size w w' := by
  have hk : k ≤ len ∧ k ≤ 300 := by omega
  have hlc := hS.cap
  have hS2 := hS.take k hk.1
  have HL := Lib.hid h
  have HS := Lib.hid hS2
  obtain ⟨hk1, hk2⟩ := hk
  have hr := hS2.rng
  have hph := ph_hexI _ hr
  have hlen : (strI (hexI (l.take k))).size = 2 * k := by rw [strI_size, hexI_length, hS2.len]
  have hnum := numS_strI (hexI (l.take k)) (hexI_rng _ hr)
  have HPh : Hid (phOk (numS (strI (hexI (l.take k)))) = true ∧ phV (numS (strI (hexI (l.take k)))) = l.take k) := by rw [hnum]; exact hph
  have hhex := Hex_c w hS2 (by omega)
  generalize strI (hexI (l.take k)) = t at *
  have HHex := Lib.hid hhex
  have HLen := Lib.hid hlen
  clear h hS hS2 hr hph hnum hhex hlen
  go_enter Tryd.func3, Tryd.ntmps3
  go_wp2_with fail
  refine HHex.out.mono ?_
  rintro e w1 ⟨rfl, hb1⟩
  have HL1 := Lib.hid (HL.out.below hb1)
  have HS1 := Lib.hid (HS.out.below hb1)
  have HB1 := Lib.hid hb1
  clear hb1 HHex
  go_wp2_with fail
  refine (ParseHex_ok t _ (by rw [HLen.out]; omega) HPh.out.1).mono ?_
  rintro e w2 ⟨p2, n2, c2, rfl, hs2, hb2⟩
  rw [HPh.out.2] at hs2
  have HL2 := Lib.hid (HL1.out.below hb2)
  have HS2 := Lib.hid (HS1.out.below hb2)
  have HB2 := Lib.hid (HB1.out.trans (hb2.mono HB1.out.size))
  have HT2 := Lib.hid hs2
  clear hb2 hs2 HL1 HS1 HB1
  have hlent : t.size = 2 * k := HLen.out
  go_wp2_with fail
  refine (Equal_yes _ HT2.out HS2.out rfl).mono ?_
  rintro e w3 ⟨rfl, rfl⟩
  clear HT2 HS2 hlent
  by_cases h300 : s.size ≤ 300
  · cases hok : phOk (numS s) with
    | true =>
      have HO := Lib.hid hok
      clear hok
      go_wp2_with fail
      refine (ParseHex_ok s _ (by omega) HO.out).mono ?_
      rintro e w3 ⟨p3, n3, c3, rfl, hs3, hb3⟩
      have HL3 := Lib.hid (HL2.out.below hb3)
      have HB3 := Lib.hid (HB2.out.trans (hb3.mono HB2.out.size))
      have hn3 : n3 ≤ 1000000 := by
        have h1 := hs3.len
        have h2 := phV_length (numS s)
        have h3 := numS_length s
        omega
      have hx3 := Hex_c _ hs3 hn3
      rw [hexI_phV _ HO.out, strI_numS] at hx3
      have HX3 := Lib.hid hx3
      clear hb3 hx3 hs3 HL2 HB2
      go_wp2_with fail
      refine HX3.out.mono ?_
      rintro e w4 ⟨rfl, hb4⟩
      have HL4 := Lib.hid (HL3.out.below hb4)
      have HB4 := Lib.hid (HB3.out.trans (hb4.mono HB3.out.size))
      clear hb4 HX3 HL3 HB3
      go_wp2_with fail
      refine (works_any _ HL4.out).mono ?_
      rintro e w5 ⟨rfl, hb5⟩
      go_wp2_with fail
      go_ret
      exact ⟨rfl, HB4.out.trans (hb5.mono HB4.out.size)⟩
    | false =>
      have HO := Lib.hid hok
      clear hok
      go_wp2_with fail
      refine (ParseHex_bad s _ (by omega) HO.out).mono ?_
      rintro e w3 ⟨rfl, hb3⟩
      have HL3 := Lib.hid (HL2.out.below hb3)
      have HB3 := Lib.hid (HB2.out.trans (hb3.mono HB2.out.size))
      clear hb3 HL2 HB2
      go_wp2_with fail
      refine (works_any _ HL3.out).mono ?_
      rintro e w5 ⟨rfl, hb5⟩
      go_wp2_with fail
      go_ret
      exact ⟨rfl, HB3.out.trans (hb5.mono HB3.out.size)⟩
  · go_wp2_with fail
    refine (works_any _ HL2.out).mono ?_
    rintro e w5 ⟨rfl, hb5⟩
    go_wp2_with fail
    go_ret
    exact ⟨rfl, HB2.out.trans (hb5.mono HB2.out.size)⟩

set_option maxHeartbeats 3200000 in
set_option maxRecDepth 100000 in
theorem hexBack_nil (s : ByteArray) (w : World) (h : Laid w) (_ : s.size ≤ maxLen) :
    Calls Tryd.prog 3 #[.slice none 0 0, .string s] w fun e w' => e = .returned (.bool true) ∧ Below w.heap.size w w' := by
  have hS2 := sl_nil w
  have HL := Lib.hid h
  have HS := Lib.hid hS2
  have HHex := Lib.hid (show Calls Tryd.prog 6 #[.slice none 0 0] w fun e w' => e = .returned (.string ⟨#[]⟩) ∧ Below w.heap.size w w' from Hex_c w hS2 (by omega))
  clear h hS2
  have hmin0 : min (0 : Int) 300 = 0 := by decide
  go_enter Tryd.func3, Tryd.ntmps3
  go_wp2_with fail
  refine HHex.out.mono ?_
  rintro e w1 ⟨rfl, hb1⟩
  have HL1 := Lib.hid (HL.out.below hb1)
  have HS1 := Lib.hid (HS.out.below hb1)
  have HB1 := Lib.hid hb1
  clear hb1 HHex
  go_wp2_with fail
  refine (ParseHex_ok ⟨#[]⟩ _ (by decide) (by decide)).mono ?_
  rintro e w2 ⟨p2, n2, c2, rfl, hs2, hb2⟩
  have HL2 := Lib.hid (HL1.out.below hb2)
  have HS2 := Lib.hid (HS1.out.below hb2)
  have HB2 := Lib.hid (HB1.out.trans (hb2.mono HB1.out.size))
  have HT2 := Lib.hid hs2
  clear hb2 hs2 HL1 HS1 HB1
  go_wp2_with fail
  refine (Equal_yes _ HT2.out HS2.out rfl).mono ?_
  rintro e w3 ⟨rfl, rfl⟩
  clear HT2 HS2
  by_cases h300 : s.size ≤ 300
  · cases hok : phOk (numS s) with
    | true =>
      have HO := Lib.hid hok
      clear hok
      go_wp2_with fail
      refine (ParseHex_ok s _ (by omega) HO.out).mono ?_
      rintro e w3 ⟨p3, n3, c3, rfl, hs3, hb3⟩
      have HL3 := Lib.hid (HL2.out.below hb3)
      have HB3 := Lib.hid (HB2.out.trans (hb3.mono HB2.out.size))
      have hn3 : n3 ≤ 1000000 := by
        have h1 := hs3.len
        have h2 := phV_length (numS s)
        have h3 := numS_length s
        omega
      have hx3 := Hex_c _ hs3 hn3
      rw [hexI_phV _ HO.out, strI_numS] at hx3
      have HX3 := Lib.hid hx3
      clear hb3 hx3 hs3 HL2 HB2
      go_wp2_with fail
      refine HX3.out.mono ?_
      rintro e w4 ⟨rfl, hb4⟩
      have HL4 := Lib.hid (HL3.out.below hb4)
      have HB4 := Lib.hid (HB3.out.trans (hb4.mono HB3.out.size))
      clear hb4 HX3 HL3 HB3
      go_wp2_with fail
      refine (works_any _ HL4.out).mono ?_
      rintro e w5 ⟨rfl, hb5⟩
      go_wp2_with fail
      go_ret
      exact ⟨rfl, HB4.out.trans (hb5.mono HB4.out.size)⟩
    | false =>
      have HO := Lib.hid hok
      clear hok
      go_wp2_with fail
      refine (ParseHex_bad s _ (by omega) HO.out).mono ?_
      rintro e w3 ⟨rfl, hb3⟩
      have HL3 := Lib.hid (HL2.out.below hb3)
      have HB3 := Lib.hid (HB2.out.trans (hb3.mono HB2.out.size))
      clear hb3 HL2 HB2
      go_wp2_with fail
      refine (works_any _ HL3.out).mono ?_
      rintro e w5 ⟨rfl, hb5⟩
      go_wp2_with fail
      go_ret
      exact ⟨rfl, HB3.out.trans (hb5.mono HB3.out.size)⟩
  · go_wp2_with fail
    refine (works_any _ HL2.out).mono ?_
    rintro e w5 ⟨rfl, hb5⟩
    go_wp2_with fail
    go_ret
    exact ⟨rfl, HB2.out.trans (hb5.mono HB2.out.size)⟩

theorem hexBack_law (a : Option Addr) (len cap : Nat) (zs : List Int) (s : ByteArray) (w : World) (h : Laid w) (w0 : IsRow .u8 w a len cap zs) (hs : s.size ≤ maxLen) :
    Calls Tryd.prog 3 #[.slice a len cap, .string s] w fun e w' => e = .returned (.bool true) ∧ Below w.heap.size w w' := by
  have hS := isRow_sl w0
  rcases w0 with ⟨rfl, rfl, rfl, rfl⟩ | ⟨x, rfl, _⟩
  · exact hexBack_nil s w h hs
  · exact hexBack_some x len cap _ (min len 300) s w h hS.1 (by omega) hs
end Go.Proofs.YtcafenmkcjlhgabDoor
