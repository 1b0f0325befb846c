/- ValueJoins: the walk, over the contracts of package value. -/
import Derived.Test.YtjadlianlnaomaaDoorValLaw2
namespace Go.Proofs.YtjadlianlnaomaaDoor
open Go Go.RowKit

theorem vParse_text (s : ByteArray) (h : s.size ≤ 512) : vParse (vTextS s) = (s, 0) := by
  unfold vTextS
  rw [if_neg (by omega)]
  by_cases h0 : s.size = 0
  · rw [if_pos h0, size_zero s h0]
    decide +kernel
  · rw [if_neg h0]
    exact vParse_hex s h0 h

theorem vText_inj (a b : ByteArray) (ha : a.size ≤ 512) (hb : b.size ≤ 512) : ((vTextS a).toList == (vTextS b).toList) = (a.toList == b.toList) := by
  rw [str_beq, str_beq, decide_eq_decide]
  constructor
  · intro h
    have h2 := congrArg strI h
    rw [strI_numS, strI_numS] at h2
    have h3 := congrArg vParse h2
    rw [vParse_text a ha, vParse_text b hb] at h3
    rw [(Prod.mk.inj h3).1]
  · intro h
    have h2 := congrArg strI h
    rw [strI_numS, strI_numS] at h2
    rw [h2]

theorem vText_size (a : ByteArray) (h : a.size ≤ 512) : (vTextS a).size ≤ 1024 := by
  unfold vTextS
  rw [if_neg (by omega)]
  split
  · decide
  · rw [strI_size, hexI_length, numS_length]; omega

set_option maxHeartbeats 3200000 in
set_option maxRecDepth 100000 in
theorem valueJoins_any {L : World → Prop} (H : ValOk L) (a b : ByteArray) (w : World) (h : L w) :
    Calls Tryd.prog 9 #[.string a, .string b] w fun e w' => e = .returned (.bool true) ∧ Below w.heap.size w w' := by
  have HL := Lib.hid h
  have HH := Lib.hid H
  clear h H
  by_cases hbig : 300 < a.size
  · go_enter Tryd.func9, Tryd.ntmps9
    go_wp2_with fail
    refine (works6_any HH.out _ HL.out).mono ?_
    rintro e w1 ⟨rfl, hb⟩
    go_wp2_with fail
    go_ret
    exact ⟨rfl, hb⟩
  by_cases hbig2 : 300 < b.size
  · go_enter Tryd.func9, Tryd.ntmps9
    go_wp2_with fail
    refine (works6_any HH.out _ HL.out).mono ?_
    rintro e w1 ⟨rfl, hb⟩
    go_wp2_with fail
    go_ret
    exact ⟨rfl, hb⟩
  have heq := vText_inj a b (by omega) (by omega)
  have hsx := vText_size a (by omega)
  have hsy := vText_size b (by omega)
  have HXe : Hid (vTextE a = 0) := by show vTextE a = 0; unfold vTextE; rw [if_neg (by omega)]
  have HYe : Hid (vTextE b = 0) := by show vTextE b = 0; unfold vTextE; rw [if_neg (by omega)]
  have hab : (a ++ b).size = a.size + b.size := ByteArray.size_append
  have HAB := Lib.hid hab
  by_cases h5 : 512 < a.size + b.size
  · have HZ : Hid (vTextS (a ++ b) = ⟨#[]⟩) := by show vTextS (a ++ b) = _; unfold vTextS; rw [if_pos (by omega)]
    have HZe : Hid (vTextE (a ++ b) = 12) := by show vTextE (a ++ b) = _; unfold vTextE; rw [if_pos (by omega)]
    have h5i : 512 < (a.size : Int) + (b.size : Int) := by omega
    obtain ⟨x, hx⟩ : ∃ x, x = vTextS a := ⟨_, rfl⟩
    obtain ⟨y, hy⟩ : ∃ y, y = vTextS b := ⟨_, rfl⟩
    rw [← hx, ← hy] at heq
    rw [← hx] at hsx
    rw [← hy] at hsy
    have HX := Lib.hid hx.symm
    have HY := Lib.hid hy.symm
    clear hx hy hab h5
    go_enter Tryd.func9, Tryd.ntmps9
    go_wp2_with fail
    refine (HH.out.textv x 0 (by omega) HL.out HX.out HXe.out).mono ?_
    rintro e w1 ⟨rfl, hl, hb⟩
    have HL1 := Lib.hid hl
    have HB1 := Lib.hid hb
    clear hl hb HL
    go_wp2_with fail
    refine (HH.out.textv y 0 (by omega) HL1.out HY.out HYe.out).mono ?_
    rintro e w2 ⟨rfl, hl, hb⟩
    have HL2 := Lib.hid hl
    have HB2 := Lib.hid (below_then2 HB1.out hb)
    clear hl hb HL1 HB1
    go_wp2_with fail
    refine (HH.out.textv ⟨#[]⟩ 12 (by rw [ByteArray.size_append]; omega) HL2.out HZ.out HZe.out).mono ?_
    rintro e w3 ⟨rfl, hl, hb⟩
    have HL3 := Lib.hid hl
    have HB3 := Lib.hid (below_then2 HB2.out hb)
    clear hl hb HL2 HB2
    go_wp2_with fail
    refine (works6_any HH.out _ HL3.out).mono ?_
    rintro e w4 ⟨rfl, hb⟩
    go_wp2_with fail
    go_ret
    exact ⟨rfl, below_then2 HB3.out hb⟩
  have h5i : ¬ 512 < (a.size : Int) + (b.size : Int) := by omega
  have HZe : Hid (vTextE (a ++ b) = 0) := by show vTextE (a ++ b) = _; unfold vTextE; rw [if_neg (by omega)]
  by_cases ha0 : a.size = 0
  · have hea : a.toList.isEmpty = true := by rw [isEmpty_s]; exact decide_eq_true ha0
    have happ : a ++ b = b := by rw [size_zero a ha0]; apply ByteArray.ext; rw [ByteArray.data_append]; exact Array.empty_append
    have HZ : Hid (vTextS (a ++ b) = vTextS b) := by show vTextS (a ++ b) = _; rw [happ]
    obtain ⟨x, hx⟩ : ∃ x, x = vTextS a := ⟨_, rfl⟩
    obtain ⟨y, hy⟩ : ∃ y, y = vTextS b := ⟨_, rfl⟩
    rw [← hx, ← hy] at heq
    rw [← hx] at hsx
    rw [← hy] at hsy HZ
    have HX := Lib.hid hx.symm
    have HY := Lib.hid hy.symm
    clear hx hy hab h5 ha0 happ
    go_enter Tryd.func9, Tryd.ntmps9
    go_wp2_with fail
    refine (HH.out.textv x 0 (by omega) HL.out HX.out HXe.out).mono ?_
    rintro e w1 ⟨rfl, hl, hb⟩
    have HL1 := Lib.hid hl
    have HB1 := Lib.hid hb
    clear hl hb HL
    go_wp2_with fail
    refine (HH.out.textv y 0 (by omega) HL1.out HY.out HYe.out).mono ?_
    rintro e w2 ⟨rfl, hl, hb⟩
    have HL2 := Lib.hid hl
    have HB2 := Lib.hid (below_then2 HB1.out hb)
    clear hl hb HL1 HB1
    go_wp2_with fail
    refine (HH.out.textv y 0 (by rw [ByteArray.size_append]; omega) HL2.out HZ.out HZe.out).mono ?_
    rintro e w3 ⟨rfl, hl, hb⟩
    have HL3 := Lib.hid hl
    have HB3 := Lib.hid (below_then2 HB2.out hb)
    clear hl hb HL2 HB2
    go_wp2_with fail
    refine (works6_any HH.out _ HL3.out).mono ?_
    rintro e w4 ⟨rfl, hb⟩
    go_wp2_with fail
    go_ret
    exact ⟨rfl, below_then2 HB3.out hb⟩
  have hea : a.toList.isEmpty = false := by rw [isEmpty_s]; exact decide_eq_false ha0
  by_cases hb0 : b.size = 0
  · have heb : b.toList.isEmpty = true := by rw [isEmpty_s]; exact decide_eq_true hb0
    have happ : a ++ b = a := by rw [size_zero b hb0]; apply ByteArray.ext; rw [ByteArray.data_append]; exact Array.append_empty
    have HZ : Hid (vTextS (a ++ b) = vTextS a) := by show vTextS (a ++ b) = _; rw [happ]
    obtain ⟨x, hx⟩ : ∃ x, x = vTextS a := ⟨_, rfl⟩
    obtain ⟨y, hy⟩ : ∃ y, y = vTextS b := ⟨_, rfl⟩
    rw [← hx, ← hy] at heq
    rw [← hx] at hsx HZ
    rw [← hy] at hsy
    have HX := Lib.hid hx.symm
    have HY := Lib.hid hy.symm
    clear hx hy hab h5 ha0 hb0 happ
    go_enter Tryd.func9, Tryd.ntmps9
    go_wp2_with fail
    refine (HH.out.textv x 0 (by omega) HL.out HX.out HXe.out).mono ?_
    rintro e w1 ⟨rfl, hl, hb⟩
    have HL1 := Lib.hid hl
    have HB1 := Lib.hid hb
    clear hl hb HL
    go_wp2_with fail
    refine (HH.out.textv y 0 (by omega) HL1.out HY.out HYe.out).mono ?_
    rintro e w2 ⟨rfl, hl, hb⟩
    have HL2 := Lib.hid hl
    have HB2 := Lib.hid (below_then2 HB1.out hb)
    clear hl hb HL1 HB1
    go_wp2_with fail
    refine (HH.out.textv x 0 (by rw [ByteArray.size_append]; omega) HL2.out HZ.out HZe.out).mono ?_
    rintro e w3 ⟨rfl, hl, hb⟩
    have HL3 := Lib.hid hl
    have HB3 := Lib.hid (below_then2 HB2.out hb)
    clear hl hb HL2 HB2
    go_wp2_with fail
    refine (works6_any HH.out _ HL3.out).mono ?_
    rintro e w4 ⟨rfl, hb⟩
    go_wp2_with fail
    go_ret
    exact ⟨rfl, below_then2 HB3.out hb⟩
  · have heb : b.toList.isEmpty = false := by rw [isEmpty_s]; exact decide_eq_false hb0
    have HZ : Hid (vTextS (a ++ b) = vTextS a ++ vTextS b) := by
      show vTextS (a ++ b) = _
      unfold vTextS
      rw [if_neg (by omega), if_neg (by omega), if_neg (by omega), if_neg ha0, if_neg (by omega), if_neg hb0, numS_append, hexI_append, strI_append]
    obtain ⟨x, hx⟩ : ∃ x, x = vTextS a := ⟨_, rfl⟩
    obtain ⟨y, hy⟩ : ∃ y, y = vTextS b := ⟨_, rfl⟩
    rw [← hx, ← hy] at heq HZ
    rw [← hx] at hsx
    rw [← hy] at hsy
    have HX := Lib.hid hx.symm
    have HY := Lib.hid hy.symm
    clear hx hy hab h5 ha0 hb0
    go_enter Tryd.func9, Tryd.ntmps9
    go_wp2_with fail
    refine (HH.out.textv x 0 (by omega) HL.out HX.out HXe.out).mono ?_
    rintro e w1 ⟨rfl, hl, hb⟩
    have HL1 := Lib.hid hl
    have HB1 := Lib.hid hb
    clear hl hb HL
    go_wp2_with fail
    refine (HH.out.textv y 0 (by omega) HL1.out HY.out HYe.out).mono ?_
    rintro e w2 ⟨rfl, hl, hb⟩
    have HL2 := Lib.hid hl
    have HB2 := Lib.hid (below_then2 HB1.out hb)
    clear hl hb HL1 HB1
    go_wp2_with fail
    refine (HH.out.textv (x ++ y) 0 (by rw [ByteArray.size_append]; omega) HL2.out HZ.out HZe.out).mono ?_
    rintro e w3 ⟨rfl, hl, hb⟩
    have HL3 := Lib.hid hl
    have HB3 := Lib.hid (below_then2 HB2.out hb)
    clear hl hb HL2 HB2
    go_wp2_with fail
    refine (works6_any HH.out _ HL3.out).mono ?_
    rintro e w4 ⟨rfl, hb⟩
    go_wp2_with fail
    go_ret
    exact ⟨rfl, below_then2 HB3.out hb⟩
end Go.Proofs.YtjadlianlnaomaaDoor
