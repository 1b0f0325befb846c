/- CodecIntegers: the walk, from contracts that say of both sides the same. -/
import Derived.Test.YtcafenmkcjlhgaaDoorRef2
import Derived.Test.YtcafenmkcjlhgaaDoorWorks
import Derived.Test.YtcafenmkcjlhgaaDoorFrame
namespace Go.Proofs.YtcafenmkcjlhgaaDoor
open Go Go.RowKit

/-- The error that Append returns. -/
def apErr (n m : Int) : Int := if isW m then (if fitsI n m then 0 else 16) else 2
/-- The bytes that Append returns. -/
def apL (xs : List Int) (n m : Int) : List Int := if isW m && fitsI n m then xs ++ le n m.toNat else []

/-- What Append comes to, of either side. -/
def ApPost (xs : List Int) (n m : Int) (w : World) (e : Ending) (w' : World) : Prop :=
  ∃ p' n' c', e = .returned (.tuple #[.slice p' n' c', .int .i64 (apErr n m)]) ∧ Sl w' p' n' c' (apL xs n m) ∧ Below w.heap.size w w'

theorem ap_arg {xs : List Int} {n m : Int} (hw : isW m = false) (w : World) : ApPost xs n m w (.returned (.tuple #[.slice none 0 0, .int .i64 2])) w :=
  ⟨none, 0, 0, by unfold apErr; rw [hw]; rfl, by unfold apL; rw [hw]; exact sl_nil _, Below.refl _ _⟩
theorem ap_over {xs : List Int} {n m : Int} (hw : isW m = true) (hf : fitsI n m = false) (w : World) : ApPost xs n m w (.returned (.tuple #[.slice none 0 0, .int .i64 16])) w :=
  ⟨none, 0, 0, by unfold apErr; rw [hw, hf]; rfl, by unfold apL; rw [hw, hf]; exact sl_nil _, Below.refl _ _⟩
theorem ap_ok {xs : List Int} {n : Int} {m : Nat} (hw : isW m = true) (hf : fitsI n m = true) {w w' : World} {p' : Option Addr} {n' c' : Nat} (hs : Sl w' p' n' c' (xs ++ le n m)) (hb : Below w.heap.size w w') :
    ApPost xs n m w (.returned (.tuple #[.slice p' n' c', .int .i64 0])) w' :=
  ⟨p', n', c', by unfold apErr; rw [hw, hf]; rfl, by unfold apL; rw [hw, hf]; exact hs, hb⟩

/-- What Uint returns: the number and the error. -/
def uiRes (xs : List Int) (len : Nat) (i m : Int) : Int × Int :=
  if isW m then (if i < 0 then (0, 3) else if len < i + m then (0, 14) else (val ((xs.drop i.toNat).take m.toNat), 0)) else (0, 2)

theorem Append_all {p : Option Addr} {len cap : Nat} {xs : List Int} (n m : Int) (w : World) (h : Laid w) (hS : Sl w p len cap xs) (hl : len ≤ 1000000) :
    Calls Tryd.prog 10 #[.slice p len cap, .int .u64 n, .int .i64 m] w (ApPost xs n m w) := by
  cases hw : isW m with
  | false =>
    refine (Append_arg _ n m w h.wt hw).mono ?_
    rintro e w' ⟨rfl, rfl⟩
    exact ap_arg hw _
  | true =>
    cases hf : fitsI n m with
    | false =>
      refine (Append_over _ n m w h.wt hw hf).mono ?_
      rintro e w' ⟨rfl, rfl⟩
      exact ap_over hw hf _
    | true =>
      have hm0 : 0 ≤ m := by rcases isW_cases hw with h | h | h | h <;> omega
      obtain ⟨j, rfl⟩ := Int.eq_ofNat_of_zero_le hm0
      refine (Append_c n j w h hw hf hS hl).mono ?_
      rintro e w' ⟨p', n', c', rfl, hs, hb⟩
      exact ap_ok hw hf hs hb

theorem rAppend_all {p : Option Addr} {len cap : Nat} {xs : List Int} (n m : Int) (w : World) (h0 : 0 ≤ n) (h1 : n ≤ 18446744073709551615) (hS : Sl w p len cap xs) (hl : len ≤ 1000000) :
    Calls Tryd.prog 11 #[.slice p len cap, .int .u64 n, .int .i64 m] w (ApPost xs n m w) := by
  cases hw : isW m with
  | false =>
    refine (rAppend_arg _ n m w hw).mono ?_
    rintro e w' ⟨rfl, rfl⟩
    exact ap_arg hw _
  | true =>
    cases hf : fitsI n m with
    | false =>
      refine (rAppend_over _ n m w hw hf h0 h1).mono ?_
      rintro e w' ⟨rfl, rfl⟩
      exact ap_over hw hf _
    | true =>
      have hm0 : 0 ≤ m := by rcases isW_cases hw with h | h | h | h <;> omega
      obtain ⟨j, rfl⟩ := Int.eq_ofNat_of_zero_le hm0
      refine (rAppend_ok p len cap xs n j w hw hf hl h0 h1 hS).mono ?_
      rintro e w' ⟨v, rfl, hown, hb⟩
      obtain ⟨p', n', c', rfl, hs⟩ := sl_owns hown (fun x hx => by
        rcases List.mem_append.1 hx with hx | hx
        · exact hS.rng x hx
        · exact le_rng n j x hx)
      exact ap_ok hw hf hs hb

theorem Uint_all {p : Option Addr} {len cap : Nat} {xs : List Int} (i m : Int) (w : World) (h : Laid w) (hS : Sl w p len cap xs) (hl : len ≤ maxLen) :
    Calls Tryd.prog 12 #[.slice p len cap, .int .i64 i, .int .i64 m] w fun e w' => e = .returned (.tuple #[.int .u64 (uiRes xs len i m).1, .int .i64 (uiRes xs len i m).2]) ∧ w = w' := by
  unfold uiRes
  cases hw : isW m with
  | false => exact Uint_arg _ i m w h.wt hw
  | true =>
    rw [if_pos rfl]
    by_cases hi : i < 0
    · rw [if_pos hi]; exact Uint_range _ i m w h.wt hw hi
    · rw [if_neg hi]
      by_cases ht : (len : Int) < i + m
      · rw [if_pos ht]; exact Uint_torn p len cap i m w h.wt hw hl (by omega) ht
      · rw [if_neg ht]
        have hm0 : 0 ≤ m := by rcases isW_cases hw with h | h | h | h <;> omega
        obtain ⟨j, rfl⟩ := Int.eq_ofNat_of_zero_le hm0
        obtain ⟨a, rfl⟩ := Int.eq_ofNat_of_zero_le (show 0 ≤ i by omega)
        exact Uint_c a j _ w h hw hS hl (by omega) rfl

theorem rUint_all {p : Option Addr} {len cap : Nat} {xs : List Int} (i m : Int) (w : World) (hS : Sl w p len cap xs) (hl : len ≤ maxLen) :
    Calls Tryd.prog 13 #[.slice p len cap, .int .i64 i, .int .i64 m] w fun e w' => e = .returned (.tuple #[.int .u64 (uiRes xs len i m).1, .int .i64 (uiRes xs len i m).2]) ∧ w = w' := by
  unfold uiRes
  cases hw : isW m with
  | false => exact rUint_arg _ i m w hw
  | true =>
    rw [if_pos rfl]
    by_cases hi : i < 0
    · rw [if_pos hi]; exact rUint_range _ i m w hw hi
    · rw [if_neg hi]
      by_cases ht : (len : Int) < i + m
      · rw [if_pos ht]; exact rUint_torn p len cap i m w hw hl (by omega) ht
      · rw [if_neg ht]
        have hm0 : 0 ≤ m := by rcases isW_cases hw with h | h | h | h <;> omega
        obtain ⟨j, rfl⟩ := Int.eq_ofNat_of_zero_le hm0
        obtain ⟨a, rfl⟩ := Int.eq_ofNat_of_zero_le (show 0 ≤ i by omega)
        exact rUint_ok p len cap xs a j w hw hl hS (by omega)

set_option maxHeartbeats 3200000 in
set_option maxRecDepth 100000 in
theorem integers_law (b : Option Addr) (len cap : Nat) (zs : List Int) (n m i : Int) (w : World) (h : Laid w) (w0 : IsRow .u8 w b len cap zs) (wn : (Lit.int .u64 n).wf = true) (_ : (Lit.int .i64 m).wf = true) (_ : (Lit.int .i64 i).wf = true) :
    Calls Tryd.prog 3 #[.slice b len cap, .int .u64 n, .int .i64 m, .int .i64 i] w fun e w' => e = .returned (.bool true) ∧ Below w.heap.size w w' := by
  obtain ⟨hS, hcap⟩ := isRow_sl w0
  have hlc := hS.cap
  have hbn := bounds_u64 wn
  unfold maxLen at hcap
  have h0 := hbn.1
  have HN := Lib.hid hbn.2
  have HL := Lib.hid h
  have HS := Lib.hid hS
  clear w0 wn hbn h hS
  by_cases hbig : 1000 < len
  · go_enter Tryd.func3, Tryd.ntmps3
    go_wp2_with fail
    refine (works_any _ HL.out).mono ?_
    rintro e w1 ⟨rfl, hb⟩
    go_wp2_with fail
    go_ret
    exact ⟨rfl, hb⟩
  · generalize zs.take len = xs at *
    go_enter Tryd.func3, Tryd.ntmps3
    go_wp2_with fail
    refine (Append_all n m _ HL.out HS.out (by omega)).mono ?_
    rintro e w1 ⟨p1, n1, c1, rfl, hs1, hb1⟩
    have HL1 := Lib.hid (HL.out.below hb1)
    have HS1 := Lib.hid (HS.out.below hb1)
    have HB1 := Lib.hid hb1
    have HP1 := Lib.hid hs1
    clear hb1 hs1
    go_wp2_with fail
    refine (rAppend_all n m _ h0 HN.out HS1.out (by omega)).mono ?_
    rintro e w2 ⟨p2, n2, c2, rfl, hs2, hb2⟩
    have HL2 := Lib.hid (HL1.out.below hb2)
    have HS2 := Lib.hid (HS1.out.below hb2)
    have HB2 := Lib.hid (HB1.out.trans (hb2.mono HB1.out.size))
    have HP12 := Lib.hid (HP1.out.below hb2)
    have HP2 := Lib.hid hs2
    clear hb2 hs2 HL1 HS1 HB1 HP1
    go_wp2_with fail
    refine (Uint_all i m _ HL2.out HS2.out (by unfold maxLen; omega)).mono ?_
    rintro e w3 ⟨rfl, rfl⟩
    go_wp2_with fail
    refine (rUint_all i m _ HS2.out (by unfold maxLen; omega)).mono ?_
    rintro e w3 ⟨rfl, rfl⟩
    go_wp2_with fail
    refine (Equal_yes _ HP12.out HP2.out rfl).mono ?_
    rintro e w3 ⟨rfl, rfl⟩
    clear HP12 HP2 HS2
    go_wp2_with fail
    refine (Fits_any n m _ HL2.out.wt).mono ?_
    rintro e w3 ⟨rfl, rfl⟩
    go_wp2_with fail
    refine (rFits_any n m _ h0 HN.out).mono ?_
    rintro e w3 ⟨rfl, rfl⟩
    go_wp2_with fail
    refine (works_any _ HL2.out).mono ?_
    rintro e w3 ⟨rfl, hb3⟩
    go_wp2_with fail
    go_ret
    exact ⟨rfl, HB2.out.trans (hb3.mono HB2.out.size)⟩
end Go.Proofs.YtcafenmkcjlhgaaDoor
