/- The landed code of package value: Repeat, Short; all that the laws of stage 6 ask. -/
import Derived.Test.YtjadlianlnaomaaDoorValImp1
import Derived.Test.YtjadlianlnaomaaDoorFmt6
namespace Go.Proofs.YtjadlianlnaomaaDoor
open Go Go.RowKit

set_option maxHeartbeats 1600000 in
set_option maxRecDepth 100000 in
theorem lvRepeat_any (s : ByteArray) (n : Int) (w : World) (hl : s.size ≤ 1000000) :
    Calls Tryd.prog 20 #[.string s, .int .i64 n] w fun e w' => e = .returned (.tuple #[.string (vRepeat s n).1, .int .i64 (vRepeat s n).2]) ∧ Below w.heap.size w w' := by
  obtain ⟨r, hr⟩ : ∃ r, r = vRepeat s n := ⟨_, rfl⟩
  rw [← hr]
  unfold vRepeat at hr
  have hbe := isEmpty_s s
  by_cases h1 : n < 0
  · rw [if_pos (.inl h1)] at hr
    subst hr
    go_enter Tryd.func20, Tryd.ntmps20
    go_wp2_with fail
    go_ret2
    exact ⟨rfl, Below.refl _ _⟩
  by_cases h2 : s.size = 0 ∧ 0 < n
  · rw [if_pos (.inr h2)] at hr
    subst hr
    obtain ⟨h2a, h2b⟩ := h2
    rw [decide_eq_true h2a] at hbe
    have hn0 : (n != 0) = true := by rw [bne_iff_ne]; omega
    have hn1 : (n == 0) = false := by rw [beq_eq_false_iff_ne]; omega
    clear hl h2a
    go_enter Tryd.func20, Tryd.ntmps20
    go_wp2_with fail
    go_ret2
    exact ⟨rfl, Below.refl _ _⟩
  rw [if_neg (by omega)] at hr
  by_cases h4 : 512 < n
  · rw [if_pos h4] at hr
    subst hr
    have h5 : s.toList.isEmpty = false := by rw [hbe]; exact decide_eq_false (by omega)
    clear h2 hbe
    go_enter Tryd.func20, Tryd.ntmps20
    go_wp2_with fail
    go_ret2
    exact ⟨rfl, Below.refl _ _⟩
  rw [if_neg h4] at hr
  obtain ⟨N, rfl⟩ := Int.eq_ofNat_of_zero_le (show 0 ≤ n by omega)
  rw [Int.toNat_natCast] at hr
  have HN := Lib.hid (bd_new w)
  have HB0 := Lib.hid (alloc_below w (.cells #[.pointer none, .slice none 0 0] 37))
  by_cases h0 : s.size = 0
  · have hN : N = 0 := by omega
    subst hN
    have hs := size_zero s h0
    subst hs
    have HRes : Hid (r = (⟨#[]⟩, 0)) := hr
    clear hr hbe h2 h0 hl h1 h4
    rw [show ((0 : Nat) : Int) = 0 from rfl]
    go_enter Tryd.func20, Tryd.ntmps20
    go_wp2_with fail
    go_loopw [21] (fun i wr => i = .int .i64 0 ∧ Hid (Bd w.heap.size [] wr ∧ Below w.heap.size w wr))
      (fun _ _ => 0)
    case atStart => exact ⟨rfl, HN.out, HB0.out⟩
    case round =>
      obtain ⟨rfl, HK⟩ := hrel
      go_wp2_with fail
      refine (bd_string HK.out.1).mono ?_
      rintro e w4 ⟨rfl, hb4⟩
      have HB4 := Lib.hid (HK.out.2.trans hb4)
      clear hb4
      have hres := HRes.out
      subst hres
      go_wp2_with fail
      go_ret2
      exact ⟨rfl, HB4.out⟩
  rw [decide_eq_false h0] at hbe
  have HRes := Lib.hid hr
  have HX := Lib.hid (numS_length s)
  have HRg := Lib.hid (numS_rng s)
  have HIx := Lib.hid (index_s s)
  clear hr h2
  go_enter Tryd.func20, Tryd.ntmps20
  go_wp2_with fail
  go_loopw [21] (fun i wr => ∃ k : Nat, k ≤ N ∧ i = .int .i64 k ∧ Hid (Bd w.heap.size (repI (numS s) k) wr ∧ Below w.heap.size w wr))
    (fun i _ => N - (intOf i).toNat)
  case atStart => exact ⟨0, Nat.zero_le _, rfl, by simpa [repI] using HN.out, HB0.out⟩
  case round =>
    obtain ⟨k, hk, rfl, HK⟩ := hrel
    by_cases hlt : k < N
    · obtain ⟨q, hq⟩ : ∃ q, q = k % s.size := ⟨_, rfl⟩
      have hql : q < s.size := by rw [hq]; exact Nat.mod_lt _ (by omega)
      have ix0 := HIx.out q hql
      have hst := repI_succ (numS s) k
      rw [HX.out, ← hq] at hst
      have hrem : (k : Int) % (s.size : Int) = (q : Int) := by rw [hq]; rfl
      have hrem2 : (k : Int).tmod (s.size : Int) = (q : Int) := by rw [Int.tmod_eq_emod_of_nonneg (by omega)]; exact hrem
      have hxr := getD_rng HRg.out q (by rw [HX.out]; exact hql)
      generalize (numS s).getD q 0 = x at *
      have HXr := Lib.hid hxr
      have HSt := Lib.hid hst
      have hnz : ((s.size : Int) == 0) = false := by rw [beq_eq_false_iff_ne]; omega
      have HLn : Hid ((repI (numS s) k).length ≤ 1000000000) := by
        show _ ≤ _
        rw [repI_length]; omega
      clear hst hq hxr
      go_wp2_with fail
      refine (bd_byte x HK.out.1 HLn.out HXr.out.1 HXr.out.2).mono ?_
      rintro e w2 ⟨rfl, hk2, hb2⟩
      have HK2 : Hid (Bd w.heap.size (repI (numS s) (k + 1)) w2 ∧ Below w.heap.size w w2) := ⟨by rw [HSt.out]; exact hk2, HK.out.2.trans hb2⟩
      clear hk2 hb2 HK
      go_wp2_with fail
      go_roundw
      case rel => exact ⟨k + 1, by omega, by go_num, HK2⟩
      case measure => simp [intOf]; omega
    · have hkN : k = N := by omega
      subst hkN
      go_wp2_with fail
      refine (bd_string HK.out.1).mono ?_
      rintro e w4 ⟨rfl, hb4⟩
      have HB4 := Lib.hid (HK.out.2.trans hb4)
      clear hb4
      have hres := HRes.out
      subst hres
      go_wp2_with fail
      go_ret2
      exact ⟨rfl, HB4.out⟩

/-- '[]byte(t)', and Hex of it. -/
theorem hex_conv (t : ByteArray) (K : Nat) (hK : t.size = K) (w : World) (hl : K ≤ 1000000) (l : List Int) (hn : hexI (numS t) = l) :
    ∃ C Y, Sem.run Tryd.prog (convert 9 35 (.string t)) w = .ok (.slice (some ⟨w.heap.size, 0, none⟩) K C) Y ∧
      Calls Tryd.prog 25 #[.slice (some ⟨w.heap.size, 0, none⟩) K C] Y fun e w' => e = .returned (.string (strI l)) ∧ Below w.heap.size w w' := by
  subst hK hn
  exact ⟨_, _, conv_bytes t w, hex_bytes t w hl⟩

theorem decS_len (n : Nat) (h : n < 1000000) : (decS n).size ≤ 1000000000 := Nat.le_trans (decS_size 5 n h) (by decide)

theorem decDigits_at (k : Nat) (w : World) (hk : k < 1000000) (hT : PowTab w) :
    Calls Tryd.prog 32 #[.int .u64 k] w fun e w' => e = .returned (.string (decS k)) ∧ Below w.heap.size w w' := Digits_any k (by omega) w hT

set_option maxHeartbeats 1600000 in
set_option maxRecDepth 100000 in
theorem lvShort_any (s : ByteArray) (w : World) (hl : s.size < 1000000) (hT : PowTab w) :
    Calls Tryd.prog 22 #[.string s] w fun e w' => e = .returned (.string (vShort s)) ∧ Below w.heap.size w w' := by
  obtain ⟨r, hr⟩ : ∃ r, r = vShort s := ⟨_, rfl⟩
  rw [← hr]
  unfold vShort at hr
  have HN := Lib.hid (bd_new w)
  have HA := Lib.hid (alloc_below w (.cells #[.pointer none, .slice none 0 0] 37))
  have HT : Hid (PowTab (w.alloc (.cells #[.pointer none, .slice none 0 0] 37))) := hT.below (alloc_below w _)
  have HD := Lib.hid (decDigits_at s.size _ hl HT.out)
  have HDl := Lib.hid (decS_len s.size hl)
  have hwr : IntKind.u64.wrap (s.size : Int) = (s.size : Int) := by
    have hm : (s.size : Int) % 18446744073709551616 = (s.size : Int) := by omega
    unfold IntKind.wrap
    simp [IntKind.bits, IntKind.signed, hm]
  have HRs : Hid (∀ (a b : List Int), strI a ++ strI b = strI (a ++ b)) := strI_append
  have HDn : Hid (strI (numS (decS s.size)) = decS s.size) := strI_numS _
  by_cases h8 : 8 < s.size
  · rw [if_pos h8] at hr
    have hmin : min (s.size : Int) 8 = 8 := by omega
    have hx : numS (s.extract 0 8) = (numS s).take 8 := by rw [numS_extract, List.drop_zero]
    have hxs : (s.extract 0 8).size = 8 := by rw [ByteArray.size_extract]; omega
    have HX : Hid (∀ W, ∃ C Y, Sem.run Tryd.prog (convert 9 35 (.string (s.extract 0 8))) W = .ok (.slice (some ⟨W.heap.size, 0, none⟩) 8 C) Y ∧
      Calls Tryd.prog 25 #[.slice (some ⟨W.heap.size, 0, none⟩) 8 C] Y fun e w' => e = .returned (.string (strI (hexI ((numS s).take 8)))) ∧ Below W.heap.size W w') := fun W => hex_conv _ 8 hxs W (by decide) _ (by rw [hx])
    have hyr : ∀ x ∈ hexI ((numS s).take 8), 0 ≤ x ∧ x < 256 := hexI_rng _ (fun x h => numS_rng s x (List.mem_of_mem_take h))
    have hyn := numS_strI _ hyr
    have hyl : (strI (hexI ((numS s).take 8))).size ≤ 1000000000 := by rw [strI_size, hexI_length, List.length_take]; omega
    have hyl2 : (hexI ((numS s).take 8)).length ≤ 16 := by rw [hexI_length, List.length_take]; omega
    have hdl : (numS (decS s.size)).length ≤ 1000000 := by rw [numS_length]; exact Nat.le_trans (decS_size 5 s.size hl) (by decide)
    rw [← HDn.out, show (⟨#[58]⟩ : ByteArray) = strI [58] from rfl, show (⟨#[46, 46]⟩ : ByteArray) = strI [46, 46] from rfl, HRs.out, HRs.out, HRs.out] at hr
    generalize hexI ((numS s).take 8) = hx8 at *
    obtain ⟨ys, hys⟩ : ∃ ys, numS (decS s.size) ++ [58] ++ hx8 ++ [46, 46] = ys := ⟨_, rfl⟩
    rw [hys] at hr
    have HYs := Lib.hid hys
    have HYn := Lib.hid hyn
    have HYl := Lib.hid hyl
    have HYl2 := Lib.hid hyl2
    have HDd := Lib.hid hdl
    have HRes := Lib.hid hr
    clear hr hys hx hyn hyl hyl2 hyr hdl HRs HDn hT
    go_enter Tryd.func22, Tryd.ntmps22
    go_wp2_with fail
    refine HD.out.mono ?_
    rintro e w1 ⟨rfl, hb1⟩
    have HK1 := Lib.hid (HN.out.below hb1)
    have HB1 := Lib.hid (below_to HA.out hb1 (Nat.le_refl _))
    clear hb1
    go_wp2_with fail
    refine (bd_str (decS s.size) (numS (decS s.size)) HK1.out (by decide) HDl.out (List.nil_append _)).mono ?_
    rintro e w2 ⟨rfl, hk2, hb2⟩
    have HK2 := Lib.hid hk2
    have HB2 := Lib.hid (HB1.out.trans hb2)
    clear hk2 hb2 HK1 HB1
    go_wp2_with fail
    refine (bd_byte 58 HK2.out (Nat.le_trans HDd.out (by decide)) (by decide) (by decide)).mono ?_
    rintro e w3 ⟨rfl, hk3, hb3⟩
    have HK3 := Lib.hid hk3
    have HB3 := Lib.hid (HB2.out.trans hb3)
    obtain ⟨C, Y, hcv, hX⟩ := HX.out w3
    have HXc := Lib.hid hX
    clear hX
    clear hk3 hb3 HK2 HB2
    go_wp2_with fail
    refine HXc.out.mono ?_
    rintro e w4 ⟨rfl, hb4⟩
    have HK4 := Lib.hid (HK3.out.below hb4)
    have HB4 := Lib.hid (below_to HB3.out hb4 (Nat.le_refl _))
    clear hcv hb4 HK3 HB3
    go_wp2_with fail
    refine (bd_str (strI hx8) _ HK4.out (by rw [List.length_append]; have := HDd.out; simp; omega) HYl.out (by rw [HYn.out])).mono ?_
    rintro e w5 ⟨rfl, hk5, hb5⟩
    have HK5 := Lib.hid hk5
    have HB5 := Lib.hid (HB4.out.trans hb5)
    clear hk5 hb5 HK4 HB4
    go_wp2_with fail
    refine (bd_str ⟨#[46, 46]⟩ ys HK5.out (by rw [List.length_append, List.length_append]; have := HDd.out; have := HYl2.out; simp; omega) (by decide) HYs.out).mono ?_
    rintro e w6 ⟨rfl, hk6, hb6⟩
    have HK6 := Lib.hid hk6
    have HB6 := Lib.hid (HB5.out.trans hb6)
    clear hk6 hb6 HK5 HB5
    go_wp2_with fail
    refine (bd_string HK6.out).mono ?_
    rintro e w7 ⟨rfl, hb7⟩
    have HB7 := Lib.hid (HB6.out.trans hb7)
    clear hb7 HB6 HK6
    go_wp2_with fail
    go_ret
    exact ⟨congrArg (fun r => Ending.returned (Value.string r)) HRes.out.symm, HB7.out⟩
  · rw [if_neg h8] at hr
    have hmin : min (s.size : Int) 8 = (s.size : Int) := by omega
    have HX : Hid (∀ W, ∃ C Y, Sem.run Tryd.prog (convert 9 35 (.string s)) W = .ok (.slice (some ⟨W.heap.size, 0, none⟩) s.size C) Y ∧
      Calls Tryd.prog 25 #[.slice (some ⟨W.heap.size, 0, none⟩) s.size C] Y fun e w' => e = .returned (.string (strI (hexI (numS s)))) ∧ Below W.heap.size W w') := fun W => hex_conv s s.size rfl W (by omega) _ rfl
    have hyr : ∀ x ∈ hexI (numS s), 0 ≤ x ∧ x < 256 := hexI_rng _ (numS_rng s)
    have hyn := numS_strI _ hyr
    have hyl : (strI (hexI (numS s))).size ≤ 1000000000 := by rw [strI_size, hexI_length, numS_length]; omega
    have hdl : (numS (decS s.size)).length ≤ 1000000 := by rw [numS_length]; exact Nat.le_trans (decS_size 5 s.size hl) (by decide)
    rw [← HDn.out, show (⟨#[58]⟩ : ByteArray) = strI [58] from rfl, HRs.out, HRs.out] at hr
    generalize hexI (numS s) = hx8 at *
    obtain ⟨ys, hys⟩ : ∃ ys, numS (decS s.size) ++ [58] ++ hx8 = ys := ⟨_, rfl⟩
    rw [hys] at hr
    have HYs := Lib.hid hys
    have HYn := Lib.hid hyn
    have HYl := Lib.hid hyl
    have HDd := Lib.hid hdl
    have HRes := Lib.hid hr
    clear hr hys hyn hyl hyr hdl HRs HDn hT
    go_enter Tryd.func22, Tryd.ntmps22
    go_wp2_with fail
    refine HD.out.mono ?_
    rintro e w1 ⟨rfl, hb1⟩
    have HK1 := Lib.hid (HN.out.below hb1)
    have HB1 := Lib.hid (below_to HA.out hb1 (Nat.le_refl _))
    clear hb1
    go_wp2_with fail
    refine (bd_str (decS s.size) (numS (decS s.size)) HK1.out (by decide) HDl.out (List.nil_append _)).mono ?_
    rintro e w2 ⟨rfl, hk2, hb2⟩
    have HK2 := Lib.hid hk2
    have HB2 := Lib.hid (HB1.out.trans hb2)
    clear hk2 hb2 HK1 HB1
    go_wp2_with fail
    refine (bd_byte 58 HK2.out (Nat.le_trans HDd.out (by decide)) (by decide) (by decide)).mono ?_
    rintro e w3 ⟨rfl, hk3, hb3⟩
    have HK3 := Lib.hid hk3
    have HB3 := Lib.hid (HB2.out.trans hb3)
    obtain ⟨C, Y, hcv, hX⟩ := HX.out w3
    have HXc := Lib.hid hX
    clear hX
    clear hk3 hb3 HK2 HB2
    go_wp2_with fail
    refine HXc.out.mono ?_
    rintro e w4 ⟨rfl, hb4⟩
    have HK4 := Lib.hid (HK3.out.below hb4)
    have HB4 := Lib.hid (below_to HB3.out hb4 (Nat.le_refl _))
    clear hcv hb4 HK3 HB3
    go_wp2_with fail
    refine (bd_str (strI hx8) ys HK4.out (by rw [List.length_append]; have := HDd.out; simp; omega) HYl.out (by rw [HYn.out]; exact HYs.out)).mono ?_
    rintro e w5 ⟨rfl, hk5, hb5⟩
    have HK5 := Lib.hid hk5
    have HB5 := Lib.hid (HB4.out.trans hb5)
    clear hk5 hb5 HK4 HB4
    go_wp2_with fail
    refine (bd_string HK5.out).mono ?_
    rintro e w7 ⟨rfl, hb7⟩
    have HB7 := Lib.hid (HB5.out.trans hb7)
    clear hb7 HB5 HK5
    go_wp2_with fail
    go_ret
    exact ⟨congrArg (fun r => Ending.returned (Value.string r)) HRes.out.symm, HB7.out⟩

theorem val_ok : ValOk PowTab where
  below _ _ h hb := h.below hb
  check s m w _ _ _ _ := (lvCheck_any s m w).mono fun _ _ ⟨he, hw⟩ => ⟨he, hw ▸ Below.refl _ _⟩
  text s w hl _ := lvText_any s w hl
  parse s w hl _ := lvParse_any s w hl
  rep s n w hl _ _ _ := lvRepeat_any s n w hl
  short s w hl h := lvShort_any s w hl h
end Go.Proofs.YtjadlianlnaomaaDoor
