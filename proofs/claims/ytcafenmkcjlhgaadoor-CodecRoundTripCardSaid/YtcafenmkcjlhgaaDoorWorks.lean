/- The law's own example, 'works', answers true. -/
import Derived.Test.YtcafenmkcjlhgaaDoorApi
namespace Go.Proofs.YtcafenmkcjlhgaaDoor
open Go Go.RowKit

set_option maxHeartbeats 3200000 in
set_option maxRecDepth 100000 in
theorem works_any (w : World) (h : Laid w) :
    Calls Tryd.prog 9 #[] w fun e w' => e = .returned (.bool true) ∧ Below w.heap.size w w' := by
  have HL := Lib.hid h
  clear h
  have H1 := Lib.hid (sl_new w [7] 1 rfl (by decide) 5)
  have HB0 := Lib.hid ((Below.refl w.heap.size w).alloc (Nat.le_refl _) (.cells ([7].map (Value.int .u8)).toArray 5))
  have HL0 := Lib.hid (HL.out.below HB0.out)
  go_enter Tryd.func9, Tryd.ntmps9
  go_wp2_with fail
  refine (Append_c 513 2 _ HL0.out (by decide) (by decide) H1.out (by decide)).mono ?_
  rintro e w1 ⟨p1, n1, c1, rfl, hs1, hb1⟩
  have HL1 := Lib.hid (HL0.out.below hb1)
  have HB1 := Lib.hid (HB0.out.trans (hb1.mono (by simp)))
  have hn1 : n1 = 3 := by have := hs1.len; simpa [le] using this.symm
  subst hn1
  have HS1 := Lib.hid hs1
  clear hb1 hs1
  go_wp2_with fail
  refine (Uint_c 1 2 513 _ HL1.out (by decide) HS1.out (by decide) (by decide) (by decide)).mono ?_
  rintro e w2 ⟨rfl, rfl⟩
  go_wp2_with fail
  refine (Append_over (.slice none 0 0) 256 1 _ HL1.out.wt (by decide) (by decide)).mono ?_
  rintro e w2 ⟨rfl, rfl⟩
  go_wp2_with fail
  refine (Uint_torn p1 3 c1 2 2 _ HL1.out.wt (by decide) (by decide) (by decide) (by decide)).mono ?_
  rintro e w2 ⟨rfl, rfl⟩
  go_wp2_with fail
  refine (ParseHex_ok ⟨#[48, 102, 97, 48]⟩ _ (by decide) (by decide)).mono ?_
  rintro e w2 ⟨p2, n2, c2, rfl, hs2, hb2⟩
  have hn2 : n2 = 2 := by have := hs2.len; rw [← this]; decide
  subst hn2
  have HL2 := Lib.hid (HL1.out.below hb2)
  have HS1b := Lib.hid (HS1.out.below hb2)
  have HB2 := Lib.hid (HB1.out.trans (hb2.mono HB1.out.size))
  have HS2 := Lib.hid hs2
  clear hs2 hb2 HS1 HL1 HB1
  go_wp2_with fail
  refine (ParseHex_bad ⟨#[48, 70, 65, 48]⟩ _ (by decide) (by decide)).mono ?_
  rintro e w3 ⟨rfl, hb3⟩
  have HL3 := Lib.hid (HL2.out.below hb3)
  have HS1c := Lib.hid (HS1b.out.below hb3)
  have HS2c := Lib.hid (HS2.out.below hb3)
  have HB3 := Lib.hid (HB2.out.trans (hb3.mono HB2.out.size))
  clear hb3 HS1b HS2 HL2 HB2
  go_wp2_with fail
  refine (ParseDigits_c ⟨#[49, 56, 52, 52, 54, 55, 52, 52, 48, 55, 51, 55, 48, 57, 53, 53, 49, 54, 49, 53]⟩ 18446744073709551615 0 _ HL3.out (by decide) (by decide)).mono ?_
  rintro e w4 ⟨rfl, hb4⟩
  have HL4 := Lib.hid (HL3.out.below hb4)
  have HS1d := Lib.hid (HS1c.out.below hb4)
  have HS2d := Lib.hid (HS2c.out.below hb4)
  have HB4 := Lib.hid (HB3.out.trans (hb4.mono HB3.out.size))
  clear hb4 HS1c HS2c HL3 HB3
  go_wp2_with fail
  refine (ParseDigits_c ⟨#[49, 56, 52, 52, 54, 55, 52, 52, 48, 55, 51, 55, 48, 57, 53, 53, 49, 54, 49, 54]⟩ 0 16 _ HL4.out (by decide) (by decide)).mono ?_
  rintro e w5 ⟨rfl, hb5⟩
  have HL5 := Lib.hid (HL4.out.below hb5)
  have HS1e := Lib.hid (HS1d.out.below hb5)
  have HS2e := Lib.hid (HS2d.out.below hb5)
  have HB5 := Lib.hid (HB4.out.trans (hb5.mono HB4.out.size))
  clear hb5 HS1d HS2d HL4 HB4
  go_wp2_with fail
  refine (ParseDigits_c ⟨#[48, 49]⟩ 0 8 _ HL5.out (by decide) (by decide)).mono ?_
  rintro e w6 ⟨rfl, hb6⟩
  have HL6 := Lib.hid (HL5.out.below hb6)
  have HB6 := Lib.hid (HB5.out.trans (hb6.mono HB5.out.size))
  -- the first comparison, at a new block
  have hA : Below w6.heap.size w6 (w6.alloc (.cells ([7, 1, 2].map (Value.int .u8)).toArray 5)) := (Below.refl _ _).alloc (Nat.le_refl _) _
  have HS1f := Lib.hid ((HS1e.out.below hb6).below hA)
  have HS2f := Lib.hid ((HS2e.out.below hb6).below hA)
  have HN1 := Lib.hid (sl_new w6 [7, 1, 2] 3 rfl (by decide) 5)
  have HL7 := Lib.hid (HL6.out.below hA)
  have HB7 := Lib.hid (HB6.out.trans (hA.mono HB6.out.size))
  clear hb6 HS1e HS2e HL5 HB5 hA HL6
  go_wp2_with fail
  refine (Equal_yes _ HS1f.out HN1.out (by decide)).mono ?_
  rintro e w7 ⟨rfl, rfl⟩
  -- the second comparison, at another new block
  have hA2 : Below (w6.alloc (.cells ([7, 1, 2].map (Value.int .u8)).toArray 5)).heap.size (w6.alloc (.cells ([7, 1, 2].map (Value.int .u8)).toArray 5)) ((w6.alloc (.cells ([7, 1, 2].map (Value.int .u8)).toArray 5)).alloc (.cells ([15, 160].map (Value.int .u8)).toArray 5)) := (Below.refl _ _).alloc (Nat.le_refl _) _
  have HS2g := Lib.hid (HS2f.out.below hA2)
  have hn2 := sl_new (w6.alloc (.cells ([7, 1, 2].map (Value.int .u8)).toArray 5)) [15, 160] 2 rfl (by decide) 5
  rw [show (w6.alloc (.cells ([7, 1, 2].map (Value.int .u8)).toArray 5)).heap.size = w6.heap.size + 1 from by simp] at hn2
  have HN2 := Lib.hid hn2
  clear hn2
  have HL8 := Lib.hid (HL7.out.below hA2)
  have HB8 := Lib.hid (HB7.out.trans (hA2.mono HB7.out.size))
  clear HS1f HS2f HN1 HL7 HB7 hA2
  go_wp2_with fail
  refine (Equal_yes _ HS2g.out HN2.out (by decide)).mono ?_
  rintro e w7 ⟨rfl, rfl⟩
  go_wp2_with fail
  have hhex := Hex_c _ HS2g.out (by decide)
  rw [show strI (hexI (phV (numS ⟨#[48, 102, 97, 48]⟩))) = ⟨#[48, 102, 97, 48]⟩ from by decide] at hhex
  refine hhex.mono ?_
  rintro e w9 ⟨rfl, hb9⟩
  have HL9 := Lib.hid (HL8.out.below hb9)
  have HB9 := Lib.hid (HB8.out.trans (hb9.mono HB8.out.size))
  clear hb9 hhex HS2g HN2 HL8 HB8
  go_wp2_with fail
  have hdig := Digits_c 0 (by decide) _ HL9.out
  rw [show (Lib.decDigits 0).toArray = #[48] from by rw [Lib.decDigits_one (by decide)]; rfl] at hdig
  refine hdig.mono ?_
  rintro e w10 ⟨rfl, hb10⟩
  have HL10 := Lib.hid (HL9.out.below hb10)
  have HB10 := Lib.hid (HB9.out.trans (hb10.mono HB9.out.size))
  clear hb10 hdig HL9 HB9
  go_wp2_with fail
  have hf1 := Fits_any 255 1 _ HL10.out.wt
  rw [show fitsI 255 1 = true from by decide] at hf1
  refine hf1.mono ?_
  rintro e w11 ⟨rfl, rfl⟩
  clear hf1
  go_wp2_with fail
  have hf2 := Fits_any 0 3 _ HL10.out.wt
  rw [show fitsI 0 3 = false from by decide] at hf2
  refine hf2.mono ?_
  rintro e w11 ⟨rfl, rfl⟩
  clear hf2
  go_wp2_with fail
  go_ret
  exact ⟨rfl, HB10.out⟩
end Go.Proofs.YtcafenmkcjlhgaaDoor
