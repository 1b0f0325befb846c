/- KeyTotal: the walk, over the contracts of package key. -/
import Derived.Test.YtogkabdampkbjaaDoorKeyApi
import Derived.StillTailTactics
import Derived.Deep.QuietTactic
import Derived.BigQuiet
namespace Go.Proofs.YtogkabdampkbjaaDoor
open Go Go.RowKit

theorem ext_com (a b : ByteArray) (k : Nat) (h : k ≤ comL (numS a) (numS b)) : a.extract 0 k = b.extract 0 k := by
  rw [extract_strI, extract_strI, List.drop_zero, List.drop_zero]
  congr 1
  have hle := comL_le (numS a) (numS b)
  apply List.ext_getElem?
  intro i
  rw [List.getElem?_take, List.getElem?_take]
  by_cases hi : i < k
  · rw [if_pos hi, if_pos hi]
    have h1 := comL_at (numS a) (numS b) i (by omega)
    have e1 : (numS a)[i]? = some ((numS a).getD i 0) := by simp [List.getD, show i < (numS a).length by omega]
    have e2 : (numS b)[i]? = some ((numS b).getD i 0) := by simp [List.getD, show i < (numS b).length by omega]
    rw [e1, e2, h1]
  · rw [if_neg hi, if_neg hi]

set_option maxHeartbeats 12800000 in
set_option maxRecDepth 100000 in
theorem keyTotal_any {L : World → Prop} (H : KeyOk L) (hQ : ∀ (a b : ByteArray) w, a.size ≤ 1000000 → b.size ≤ 1000000 → L w → Calls Tryd.prog 18 #[.string a, .string b] w fun e w' => e = .returned (.int .i64 (comL (numS a) (numS b) : Nat)) ∧ ∃ n, w' = w.drewN n) (a b c : ByteArray) (w : World) (h : L w) :
    Calls Tryd.prog 7 #[.string a, .string b, .string c] w fun e w' => e = .returned (.bool true) ∧ Below w.heap.size w w' := by
  have HL0 := Lib.hid h
  have HH := Lib.hid H
  have HQ := Lib.hid hQ
  clear h H hQ
  by_cases hbig : 200 < a.size
  · go_enter Tryd.func7, Tryd.ntmps7
    go_wp2_with fail
    refine (works5_any HH.out _ HL0.out).mono ?_
    rintro e w1 ⟨rfl, hb⟩
    go_wp2_with fail
    go_ret
    exact ⟨rfl, hb⟩
  by_cases hbig2 : 200 < b.size
  · go_enter Tryd.func7, Tryd.ntmps7
    go_wp2_with fail
    refine (works5_any HH.out _ HL0.out).mono ?_
    rintro e w1 ⟨rfl, hb⟩
    go_wp2_with fail
    go_ret
    exact ⟨rfl, hb⟩
  by_cases hbig3 : 200 < c.size
  · go_enter Tryd.func7, Tryd.ntmps7
    go_wp2_with fail
    refine (works5_any HH.out _ HL0.out).mono ?_
    rintro e w1 ⟨rfl, hb⟩
    go_wp2_with fail
    go_ret
    exact ⟨rfl, hb⟩
  have hr := ordL_com (numS a) (numS b)
  have hle := comL_le (numS a) (numS b)
  have hst := comL_stop (numS a) (numS b)
  rw [numS_length, numS_length] at hr hle hst
  have hneg := ordL_neg (numS a) (numS b)
  have htr := ordL_trans (numS a) (numS b) (numS c)
  have hz0 := @ordL_zero (numS a) (numS b)
  have hself := ordL_self (numS a)
  have HIa := Lib.hid (index_s a)
  have HIb := Lib.hid (index_s b)
  have hext := ext_com a b _ (Nat.le_refl _)
  have hcc := comL_comm (numS a) (numS b)
  obtain ⟨y, hy⟩ : ∃ y, y = ordL (numS b) (numS c) := ⟨_, rfl⟩
  obtain ⟨z, hz⟩ : ∃ z, z = ordL (numS a) (numS c) := ⟨_, rfl⟩
  rw [← hy, ← hz] at htr
  have HY := Lib.hid hy.symm
  have HZ := Lib.hid hz.symm
  clear hy hz
  have hab : (a.toList == b.toList) = decide (ordL (numS a) (numS b) = 0) := by
    rw [str_beq, decide_eq_decide]
    constructor
    · intro e; rw [← e]; exact hself
    · exact hz0
  obtain ⟨k, hk⟩ : ∃ k, k = comL (numS a) (numS b) := ⟨_, rfl⟩
  rw [← hk] at hr hle hst hext hcc
  have HK : Hid ((comL (numS a) (numS b) : Int) = (k : Int)) := by show (comL (numS a) (numS b) : Int) = (k : Int); rw [← hk]
  have HK2 : Hid ((comL (numS b) (numS a) : Int) = (k : Int)) := by show (comL (numS b) (numS a) : Int) = (k : Int); rw [← hcc]
  obtain ⟨hla, hlb⟩ := hle
  have hk0 : (0 : Int) ≤ (k : Int) := by omega
  have hkla : (k : Int) ≤ (a.size : Int) := by omega
  have hklb : (k : Int) ≤ (b.size : Int) := by omega
  have hnka : ¬ a.size < k := by omega
  have hnkb : ¬ b.size < k := by omega
  have hnk0 : ¬ (k : Int) < 0 := by omega
  have hnka2 : ¬ (a.size : Int) < (k : Int) := by omega
  have hnkb2 : ¬ (b.size : Int) < (k : Int) := by omega
  have hkn1 : k ≤ a.size := hla
  have hkn2 : k ≤ b.size := hlb
  clear hk hcc hself hz0
  by_cases hA : k = a.size
  · have hka : ((k : Int) == (a.size : Int)) = true := by rw [beq_iff_eq]; omega
    by_cases hB : k = b.size
    · have hkb : ((k : Int) == (b.size : Int)) = true := by rw [beq_iff_eq]; omega
      rw [if_pos ⟨hA, hB⟩] at hr
      rw [hr] at hneg htr hab
      have HX := Lib.hid hr
      have HX2 : Hid (ordL (numS b) (numS a) = 0) := hneg
      rw [decide_eq_true rfl] at hab
      clear hr hneg hst hla hlb hA hB
      by_cases hy0 : y ≤ 0
      · have hz1 := (htr (by decide) hy0).1
        clear htr
        go_enter Tryd.func7, Tryd.ntmps7
        go_wp2_with fail
        refine (HH.out.orderv (0) (by omega) (by omega) HL0.out HX.out).mono ?_
        rintro e w1 ⟨rfl, hl, hb⟩
        have HL1 := Lib.hid hl
        have HB1 := Lib.hid hb
        clear hl hb HL0
        go_wp2_with fail
        refine (HH.out.orderv y (by omega) (by omega) HL1.out HY.out).mono ?_
        rintro e w2 ⟨rfl, hl, hb⟩
        have HL2 := Lib.hid hl
        have HB2 := Lib.hid (below_then5 HB1.out hb)
        clear hl hb HL1 HB1
        go_wp2_with fail
        refine (HH.out.orderv z (by omega) (by omega) HL2.out HZ.out).mono ?_
        rintro e w3 ⟨rfl, hl, hb⟩
        have HL3 := Lib.hid hl
        have HB3 := Lib.hid (below_then5 HB2.out hb)
        clear hl hb HL2 HB2
        go_wp2_with fail
        refine (HH.out.orderv (0) (by omega) (by omega) HL3.out HX2.out).mono ?_
        rintro e w4 ⟨rfl, hl, hb⟩
        have HL4 := Lib.hid hl
        have HB4 := Lib.hid (below_then5 HB3.out hb)
        clear hl hb HL3 HB3
        go_wp2_with fail
        refine (HH.out.commonv (k : Int) (by omega) (by omega) HL4.out HK.out).mono ?_
        rintro e w5 ⟨rfl, hl, hb⟩
        have HL5 := Lib.hid hl
        have HB5 := Lib.hid (below_then5 HB4.out hb)
        clear hl hb HL4 HB4
        go_wp2_with fail
        have HQk : Hid (∀ n, Calls Tryd.prog 18 #[.string b, .string a] (w5.drewN n) fun e w' => e = .returned (.int .i64 (k : Int)) ∧ ∃ m, w' = (w5.drewN n).drewN m) := fun n => by
          have hq := HQ.out b a (w5.drewN n) (by omega) (by omega) (HH.out.below _ _ HL5.out (drewN_below _ _))
          rw [HK2.out] at hq
          exact hq
        go_quiet ((go_at_call 18; exact Calls.quiet_of (HQk.out _)))
        clear HQk
        rename_i nq
        have HL6 : Hid (L (w5.drewN nq)) := HH.out.below _ _ HL5.out (drewN_below _ _)
        have HB6 : Hid (Below w.heap.size w (w5.drewN nq)) := below_drewN HB5.out nq
        generalize w5.drewN nq = w6 at *
        clear HL5 HB5
        go_wp2_with fail
        refine (works5_any HH.out _ HL6.out).mono ?_
        rintro e w7 ⟨rfl, hb⟩
        go_wp2_with fail
        go_ret
        exact ⟨rfl, below_then5 HB6.out hb⟩
      · clear htr
        go_enter Tryd.func7, Tryd.ntmps7
        go_wp2_with fail
        refine (HH.out.orderv (0) (by omega) (by omega) HL0.out HX.out).mono ?_
        rintro e w1 ⟨rfl, hl, hb⟩
        have HL1 := Lib.hid hl
        have HB1 := Lib.hid hb
        clear hl hb HL0
        go_wp2_with fail
        refine (HH.out.orderv y (by omega) (by omega) HL1.out HY.out).mono ?_
        rintro e w2 ⟨rfl, hl, hb⟩
        have HL2 := Lib.hid hl
        have HB2 := Lib.hid (below_then5 HB1.out hb)
        clear hl hb HL1 HB1
        go_wp2_with fail
        refine (HH.out.orderv z (by omega) (by omega) HL2.out HZ.out).mono ?_
        rintro e w3 ⟨rfl, hl, hb⟩
        have HL3 := Lib.hid hl
        have HB3 := Lib.hid (below_then5 HB2.out hb)
        clear hl hb HL2 HB2
        go_wp2_with fail
        refine (HH.out.orderv (0) (by omega) (by omega) HL3.out HX2.out).mono ?_
        rintro e w4 ⟨rfl, hl, hb⟩
        have HL4 := Lib.hid hl
        have HB4 := Lib.hid (below_then5 HB3.out hb)
        clear hl hb HL3 HB3
        go_wp2_with fail
        refine (HH.out.commonv (k : Int) (by omega) (by omega) HL4.out HK.out).mono ?_
        rintro e w5 ⟨rfl, hl, hb⟩
        have HL5 := Lib.hid hl
        have HB5 := Lib.hid (below_then5 HB4.out hb)
        clear hl hb HL4 HB4
        go_wp2_with fail
        have HQk : Hid (∀ n, Calls Tryd.prog 18 #[.string b, .string a] (w5.drewN n) fun e w' => e = .returned (.int .i64 (k : Int)) ∧ ∃ m, w' = (w5.drewN n).drewN m) := fun n => by
          have hq := HQ.out b a (w5.drewN n) (by omega) (by omega) (HH.out.below _ _ HL5.out (drewN_below _ _))
          rw [HK2.out] at hq
          exact hq
        go_quiet ((go_at_call 18; exact Calls.quiet_of (HQk.out _)))
        clear HQk
        rename_i nq
        have HL6 : Hid (L (w5.drewN nq)) := HH.out.below _ _ HL5.out (drewN_below _ _)
        have HB6 : Hid (Below w.heap.size w (w5.drewN nq)) := below_drewN HB5.out nq
        generalize w5.drewN nq = w6 at *
        clear HL5 HB5
        go_wp2_with fail
        refine (works5_any HH.out _ HL6.out).mono ?_
        rintro e w7 ⟨rfl, hb⟩
        go_wp2_with fail
        go_ret
        exact ⟨rfl, below_then5 HB6.out hb⟩
    · have hkb : ((k : Int) == (b.size : Int)) = false := by rw [beq_eq_false_iff_ne]; omega
      rw [if_neg (fun h => hB h.2), if_pos (.inl hA)] at hr
      rw [hr] at hneg htr hab
      have HX := Lib.hid hr
      have HX2 : Hid (ordL (numS b) (numS a) = 1) := hneg
      rw [decide_eq_false (by decide)] at hab
      clear hr hneg hst hla hlb hA hB
      by_cases hy0 : y ≤ 0
      · have hz1 := (htr (by decide) hy0).2.1 (by decide)
        clear htr
        go_enter Tryd.func7, Tryd.ntmps7
        go_wp2_with fail
        refine (HH.out.orderv (-1) (by omega) (by omega) HL0.out HX.out).mono ?_
        rintro e w1 ⟨rfl, hl, hb⟩
        have HL1 := Lib.hid hl
        have HB1 := Lib.hid hb
        clear hl hb HL0
        go_wp2_with fail
        refine (HH.out.orderv y (by omega) (by omega) HL1.out HY.out).mono ?_
        rintro e w2 ⟨rfl, hl, hb⟩
        have HL2 := Lib.hid hl
        have HB2 := Lib.hid (below_then5 HB1.out hb)
        clear hl hb HL1 HB1
        go_wp2_with fail
        refine (HH.out.orderv z (by omega) (by omega) HL2.out HZ.out).mono ?_
        rintro e w3 ⟨rfl, hl, hb⟩
        have HL3 := Lib.hid hl
        have HB3 := Lib.hid (below_then5 HB2.out hb)
        clear hl hb HL2 HB2
        go_wp2_with fail
        refine (HH.out.orderv (1) (by omega) (by omega) HL3.out HX2.out).mono ?_
        rintro e w4 ⟨rfl, hl, hb⟩
        have HL4 := Lib.hid hl
        have HB4 := Lib.hid (below_then5 HB3.out hb)
        clear hl hb HL3 HB3
        go_wp2_with fail
        refine (HH.out.commonv (k : Int) (by omega) (by omega) HL4.out HK.out).mono ?_
        rintro e w5 ⟨rfl, hl, hb⟩
        have HL5 := Lib.hid hl
        have HB5 := Lib.hid (below_then5 HB4.out hb)
        clear hl hb HL4 HB4
        go_wp2_with fail
        have HQk : Hid (∀ n, Calls Tryd.prog 18 #[.string b, .string a] (w5.drewN n) fun e w' => e = .returned (.int .i64 (k : Int)) ∧ ∃ m, w' = (w5.drewN n).drewN m) := fun n => by
          have hq := HQ.out b a (w5.drewN n) (by omega) (by omega) (HH.out.below _ _ HL5.out (drewN_below _ _))
          rw [HK2.out] at hq
          exact hq
        go_quiet ((go_at_call 18; exact Calls.quiet_of (HQk.out _)))
        clear HQk
        rename_i nq
        have HL6 : Hid (L (w5.drewN nq)) := HH.out.below _ _ HL5.out (drewN_below _ _)
        have HB6 : Hid (Below w.heap.size w (w5.drewN nq)) := below_drewN HB5.out nq
        generalize w5.drewN nq = w6 at *
        clear HL5 HB5
        go_wp2_with fail
        refine (works5_any HH.out _ HL6.out).mono ?_
        rintro e w7 ⟨rfl, hb⟩
        go_wp2_with fail
        go_ret
        exact ⟨rfl, below_then5 HB6.out hb⟩
      · clear htr
        go_enter Tryd.func7, Tryd.ntmps7
        go_wp2_with fail
        refine (HH.out.orderv (-1) (by omega) (by omega) HL0.out HX.out).mono ?_
        rintro e w1 ⟨rfl, hl, hb⟩
        have HL1 := Lib.hid hl
        have HB1 := Lib.hid hb
        clear hl hb HL0
        go_wp2_with fail
        refine (HH.out.orderv y (by omega) (by omega) HL1.out HY.out).mono ?_
        rintro e w2 ⟨rfl, hl, hb⟩
        have HL2 := Lib.hid hl
        have HB2 := Lib.hid (below_then5 HB1.out hb)
        clear hl hb HL1 HB1
        go_wp2_with fail
        refine (HH.out.orderv z (by omega) (by omega) HL2.out HZ.out).mono ?_
        rintro e w3 ⟨rfl, hl, hb⟩
        have HL3 := Lib.hid hl
        have HB3 := Lib.hid (below_then5 HB2.out hb)
        clear hl hb HL2 HB2
        go_wp2_with fail
        refine (HH.out.orderv (1) (by omega) (by omega) HL3.out HX2.out).mono ?_
        rintro e w4 ⟨rfl, hl, hb⟩
        have HL4 := Lib.hid hl
        have HB4 := Lib.hid (below_then5 HB3.out hb)
        clear hl hb HL3 HB3
        go_wp2_with fail
        refine (HH.out.commonv (k : Int) (by omega) (by omega) HL4.out HK.out).mono ?_
        rintro e w5 ⟨rfl, hl, hb⟩
        have HL5 := Lib.hid hl
        have HB5 := Lib.hid (below_then5 HB4.out hb)
        clear hl hb HL4 HB4
        go_wp2_with fail
        have HQk : Hid (∀ n, Calls Tryd.prog 18 #[.string b, .string a] (w5.drewN n) fun e w' => e = .returned (.int .i64 (k : Int)) ∧ ∃ m, w' = (w5.drewN n).drewN m) := fun n => by
          have hq := HQ.out b a (w5.drewN n) (by omega) (by omega) (HH.out.below _ _ HL5.out (drewN_below _ _))
          rw [HK2.out] at hq
          exact hq
        go_quiet ((go_at_call 18; exact Calls.quiet_of (HQk.out _)))
        clear HQk
        rename_i nq
        have HL6 : Hid (L (w5.drewN nq)) := HH.out.below _ _ HL5.out (drewN_below _ _)
        have HB6 : Hid (Below w.heap.size w (w5.drewN nq)) := below_drewN HB5.out nq
        generalize w5.drewN nq = w6 at *
        clear HL5 HB5
        go_wp2_with fail
        refine (works5_any HH.out _ HL6.out).mono ?_
        rintro e w7 ⟨rfl, hb⟩
        go_wp2_with fail
        go_ret
        exact ⟨rfl, below_then5 HB6.out hb⟩
  · have hka : ((k : Int) == (a.size : Int)) = false := by rw [beq_eq_false_iff_ne]; omega
    rw [if_neg (fun h => hA h.1)] at hr
    by_cases hB : k = b.size
    · have hkb : ((k : Int) == (b.size : Int)) = true := by rw [beq_iff_eq]; omega
      rw [if_neg (by rintro (h | h); exact hA h; omega)] at hr
      rw [hr] at hneg hab
      have HX := Lib.hid hr
      have HX2 : Hid (ordL (numS b) (numS a) = -1) := hneg
      rw [decide_eq_false (by decide)] at hab
      clear hr hneg hst hla hlb hA hB htr
      go_enter Tryd.func7, Tryd.ntmps7
      go_wp2_with fail
      refine (HH.out.orderv (1) (by omega) (by omega) HL0.out HX.out).mono ?_
      rintro e w1 ⟨rfl, hl, hb⟩
      have HL1 := Lib.hid hl
      have HB1 := Lib.hid hb
      clear hl hb HL0
      go_wp2_with fail
      refine (HH.out.orderv y (by omega) (by omega) HL1.out HY.out).mono ?_
      rintro e w2 ⟨rfl, hl, hb⟩
      have HL2 := Lib.hid hl
      have HB2 := Lib.hid (below_then5 HB1.out hb)
      clear hl hb HL1 HB1
      go_wp2_with fail
      refine (HH.out.orderv z (by omega) (by omega) HL2.out HZ.out).mono ?_
      rintro e w3 ⟨rfl, hl, hb⟩
      have HL3 := Lib.hid hl
      have HB3 := Lib.hid (below_then5 HB2.out hb)
      clear hl hb HL2 HB2
      go_wp2_with fail
      refine (HH.out.orderv (-1) (by omega) (by omega) HL3.out HX2.out).mono ?_
      rintro e w4 ⟨rfl, hl, hb⟩
      have HL4 := Lib.hid hl
      have HB4 := Lib.hid (below_then5 HB3.out hb)
      clear hl hb HL3 HB3
      go_wp2_with fail
      refine (HH.out.commonv (k : Int) (by omega) (by omega) HL4.out HK.out).mono ?_
      rintro e w5 ⟨rfl, hl, hb⟩
      have HL5 := Lib.hid hl
      have HB5 := Lib.hid (below_then5 HB4.out hb)
      clear hl hb HL4 HB4
      go_wp2_with fail
      have HQk : Hid (∀ n, Calls Tryd.prog 18 #[.string b, .string a] (w5.drewN n) fun e w' => e = .returned (.int .i64 (k : Int)) ∧ ∃ m, w' = (w5.drewN n).drewN m) := fun n => by
        have hq := HQ.out b a (w5.drewN n) (by omega) (by omega) (HH.out.below _ _ HL5.out (drewN_below _ _))
        rw [HK2.out] at hq
        exact hq
      go_quiet ((go_at_call 18; exact Calls.quiet_of (HQk.out _)))
      clear HQk
      rename_i nq
      have HL6 : Hid (L (w5.drewN nq)) := HH.out.below _ _ HL5.out (drewN_below _ _)
      have HB6 : Hid (Below w.heap.size w (w5.drewN nq)) := below_drewN HB5.out nq
      generalize w5.drewN nq = w6 at *
      clear HL5 HB5
      go_wp2_with fail
      refine (works5_any HH.out _ HL6.out).mono ?_
      rintro e w7 ⟨rfl, hb⟩
      go_wp2_with fail
      go_ret
      exact ⟨rfl, below_then5 HB6.out hb⟩
    · have hkb : ((k : Int) == (b.size : Int)) = false := by rw [beq_eq_false_iff_ne]; omega
      have hkal : (k : Int) < (a.size : Int) := by omega
      have hkbl : (k : Int) < (b.size : Int) := by omega
      have hne := hst (by omega) (by omega)
      have ixa := HIa.out k (by omega)
      have ixb := HIb.out k (by omega)
      generalize (numS a).getD k 0 = p at *
      generalize (numS b).getD k 0 = q at *
      have hpq0 : (p == q) = false := by rw [beq_eq_false_iff_ne]; exact hne
      have hpq1 : (p != q) = true := by rw [bne_iff_ne]; exact hne
      have hpq2 : decide (p = q) = false := decide_eq_false hne
      have hpq3 : ¬ p = q := hne
      by_cases hpq : p < q
      · rw [if_pos (.inr ⟨by omega, hpq⟩)] at hr
        have hpqd : decide (p < q) = true := decide_eq_true hpq
        rw [hr] at hneg htr hab
        have HX := Lib.hid hr
        have HX2 : Hid (ordL (numS b) (numS a) = 1) := hneg
        rw [decide_eq_false (by decide)] at hab
        clear hr hneg hst hla hlb hA hB hne
        by_cases hy0 : y ≤ 0
        · have hz1 := (htr (by decide) hy0).2.1 (by decide)
          clear htr
          go_enter Tryd.func7, Tryd.ntmps7
          go_wp2_with fail
          refine (HH.out.orderv (-1) (by omega) (by omega) HL0.out HX.out).mono ?_
          rintro e w1 ⟨rfl, hl, hb⟩
          have HL1 := Lib.hid hl
          have HB1 := Lib.hid hb
          clear hl hb HL0
          go_wp2_with fail
          refine (HH.out.orderv y (by omega) (by omega) HL1.out HY.out).mono ?_
          rintro e w2 ⟨rfl, hl, hb⟩
          have HL2 := Lib.hid hl
          have HB2 := Lib.hid (below_then5 HB1.out hb)
          clear hl hb HL1 HB1
          go_wp2_with fail
          refine (HH.out.orderv z (by omega) (by omega) HL2.out HZ.out).mono ?_
          rintro e w3 ⟨rfl, hl, hb⟩
          have HL3 := Lib.hid hl
          have HB3 := Lib.hid (below_then5 HB2.out hb)
          clear hl hb HL2 HB2
          go_wp2_with fail
          refine (HH.out.orderv (1) (by omega) (by omega) HL3.out HX2.out).mono ?_
          rintro e w4 ⟨rfl, hl, hb⟩
          have HL4 := Lib.hid hl
          have HB4 := Lib.hid (below_then5 HB3.out hb)
          clear hl hb HL3 HB3
          go_wp2_with fail
          refine (HH.out.commonv (k : Int) (by omega) (by omega) HL4.out HK.out).mono ?_
          rintro e w5 ⟨rfl, hl, hb⟩
          have HL5 := Lib.hid hl
          have HB5 := Lib.hid (below_then5 HB4.out hb)
          clear hl hb HL4 HB4
          go_wp2_with fail
          have HQk : Hid (∀ n, Calls Tryd.prog 18 #[.string b, .string a] (w5.drewN n) fun e w' => e = .returned (.int .i64 (k : Int)) ∧ ∃ m, w' = (w5.drewN n).drewN m) := fun n => by
            have hq := HQ.out b a (w5.drewN n) (by omega) (by omega) (HH.out.below _ _ HL5.out (drewN_below _ _))
            rw [HK2.out] at hq
            exact hq
          go_quiet ((go_at_call 18; exact Calls.quiet_of (HQk.out _)))
          clear HQk
          rename_i nq
          have HL6 : Hid (L (w5.drewN nq)) := HH.out.below _ _ HL5.out (drewN_below _ _)
          have HB6 : Hid (Below w.heap.size w (w5.drewN nq)) := below_drewN HB5.out nq
          generalize w5.drewN nq = w6 at *
          clear HL5 HB5
          go_wp2_with fail
          have HLe : Hid (L w6.drew) := HH.out.below _ _ HL6.out (Below.refl _ _).drew
          have HBe : Hid (Below w.heap.size w w6.drew) := HB6.out.drew
          refine wp_region_still_tail 20 (by kernel_rfl) (by kernel_rfl) ?_
          simp only [List.take_succ_cons, List.take_zero, List.drop_succ_cons, List.drop_zero]
          rw [show ({ heap := w6.heap, tape := w6.tape, drawn := w6.drawn + 1, os := w6.os, output := w6.output } : World) = w6.drew from rfl]
          generalize w6.drew = w7 at *
          clear HL6 HB6
          repeat still_step
          refine wpStill_nil ?_
          go_wp2_with fail
          refine (works5_any HH.out _ HLe.out).mono ?_
          rintro e w8 ⟨rfl, hb⟩
          go_wp2_with fail
          go_ret
          refine ⟨?_, below_then5 HBe.out hb⟩
          first
            | rfl
            | (show Ending.returned (Value.bool (!decide (p < q))) = _; simp [hpqd])
            | (show Ending.returned (Value.bool (decide (p < q))) = _; simp [hpqd])
        · clear htr
          go_enter Tryd.func7, Tryd.ntmps7
          go_wp2_with fail
          refine (HH.out.orderv (-1) (by omega) (by omega) HL0.out HX.out).mono ?_
          rintro e w1 ⟨rfl, hl, hb⟩
          have HL1 := Lib.hid hl
          have HB1 := Lib.hid hb
          clear hl hb HL0
          go_wp2_with fail
          refine (HH.out.orderv y (by omega) (by omega) HL1.out HY.out).mono ?_
          rintro e w2 ⟨rfl, hl, hb⟩
          have HL2 := Lib.hid hl
          have HB2 := Lib.hid (below_then5 HB1.out hb)
          clear hl hb HL1 HB1
          go_wp2_with fail
          refine (HH.out.orderv z (by omega) (by omega) HL2.out HZ.out).mono ?_
          rintro e w3 ⟨rfl, hl, hb⟩
          have HL3 := Lib.hid hl
          have HB3 := Lib.hid (below_then5 HB2.out hb)
          clear hl hb HL2 HB2
          go_wp2_with fail
          refine (HH.out.orderv (1) (by omega) (by omega) HL3.out HX2.out).mono ?_
          rintro e w4 ⟨rfl, hl, hb⟩
          have HL4 := Lib.hid hl
          have HB4 := Lib.hid (below_then5 HB3.out hb)
          clear hl hb HL3 HB3
          go_wp2_with fail
          refine (HH.out.commonv (k : Int) (by omega) (by omega) HL4.out HK.out).mono ?_
          rintro e w5 ⟨rfl, hl, hb⟩
          have HL5 := Lib.hid hl
          have HB5 := Lib.hid (below_then5 HB4.out hb)
          clear hl hb HL4 HB4
          go_wp2_with fail
          have HQk : Hid (∀ n, Calls Tryd.prog 18 #[.string b, .string a] (w5.drewN n) fun e w' => e = .returned (.int .i64 (k : Int)) ∧ ∃ m, w' = (w5.drewN n).drewN m) := fun n => by
            have hq := HQ.out b a (w5.drewN n) (by omega) (by omega) (HH.out.below _ _ HL5.out (drewN_below _ _))
            rw [HK2.out] at hq
            exact hq
          go_quiet ((go_at_call 18; exact Calls.quiet_of (HQk.out _)))
          clear HQk
          rename_i nq
          have HL6 : Hid (L (w5.drewN nq)) := HH.out.below _ _ HL5.out (drewN_below _ _)
          have HB6 : Hid (Below w.heap.size w (w5.drewN nq)) := below_drewN HB5.out nq
          generalize w5.drewN nq = w6 at *
          clear HL5 HB5
          go_wp2_with fail
          have HLe : Hid (L w6.drew) := HH.out.below _ _ HL6.out (Below.refl _ _).drew
          have HBe : Hid (Below w.heap.size w w6.drew) := HB6.out.drew
          refine wp_region_still_tail 20 (by kernel_rfl) (by kernel_rfl) ?_
          simp only [List.take_succ_cons, List.take_zero, List.drop_succ_cons, List.drop_zero]
          rw [show ({ heap := w6.heap, tape := w6.tape, drawn := w6.drawn + 1, os := w6.os, output := w6.output } : World) = w6.drew from rfl]
          generalize w6.drew = w7 at *
          clear HL6 HB6
          repeat still_step
          refine wpStill_nil ?_
          go_wp2_with fail
          refine (works5_any HH.out _ HLe.out).mono ?_
          rintro e w8 ⟨rfl, hb⟩
          go_wp2_with fail
          go_ret
          refine ⟨?_, below_then5 HBe.out hb⟩
          first
            | rfl
            | (show Ending.returned (Value.bool (!decide (p < q))) = _; simp [hpqd])
            | (show Ending.returned (Value.bool (decide (p < q))) = _; simp [hpqd])
      · rw [if_neg (by rintro (h | h); exact hA h; exact hpq h.2)] at hr
        have hpqd : decide (p < q) = false := decide_eq_false hpq
        rw [hr] at hneg hab
        have HX := Lib.hid hr
        have HX2 : Hid (ordL (numS b) (numS a) = -1) := hneg
        rw [decide_eq_false (by decide)] at hab
        clear hr hneg hst hla hlb hA hB hne htr
        go_enter Tryd.func7, Tryd.ntmps7
        go_wp2_with fail
        refine (HH.out.orderv (1) (by omega) (by omega) HL0.out HX.out).mono ?_
        rintro e w1 ⟨rfl, hl, hb⟩
        have HL1 := Lib.hid hl
        have HB1 := Lib.hid hb
        clear hl hb HL0
        go_wp2_with fail
        refine (HH.out.orderv y (by omega) (by omega) HL1.out HY.out).mono ?_
        rintro e w2 ⟨rfl, hl, hb⟩
        have HL2 := Lib.hid hl
        have HB2 := Lib.hid (below_then5 HB1.out hb)
        clear hl hb HL1 HB1
        go_wp2_with fail
        refine (HH.out.orderv z (by omega) (by omega) HL2.out HZ.out).mono ?_
        rintro e w3 ⟨rfl, hl, hb⟩
        have HL3 := Lib.hid hl
        have HB3 := Lib.hid (below_then5 HB2.out hb)
        clear hl hb HL2 HB2
        go_wp2_with fail
        refine (HH.out.orderv (-1) (by omega) (by omega) HL3.out HX2.out).mono ?_
        rintro e w4 ⟨rfl, hl, hb⟩
        have HL4 := Lib.hid hl
        have HB4 := Lib.hid (below_then5 HB3.out hb)
        clear hl hb HL3 HB3
        go_wp2_with fail
        refine (HH.out.commonv (k : Int) (by omega) (by omega) HL4.out HK.out).mono ?_
        rintro e w5 ⟨rfl, hl, hb⟩
        have HL5 := Lib.hid hl
        have HB5 := Lib.hid (below_then5 HB4.out hb)
        clear hl hb HL4 HB4
        go_wp2_with fail
        have HQk : Hid (∀ n, Calls Tryd.prog 18 #[.string b, .string a] (w5.drewN n) fun e w' => e = .returned (.int .i64 (k : Int)) ∧ ∃ m, w' = (w5.drewN n).drewN m) := fun n => by
          have hq := HQ.out b a (w5.drewN n) (by omega) (by omega) (HH.out.below _ _ HL5.out (drewN_below _ _))
          rw [HK2.out] at hq
          exact hq
        go_quiet ((go_at_call 18; exact Calls.quiet_of (HQk.out _)))
        clear HQk
        rename_i nq
        have HL6 : Hid (L (w5.drewN nq)) := HH.out.below _ _ HL5.out (drewN_below _ _)
        have HB6 : Hid (Below w.heap.size w (w5.drewN nq)) := below_drewN HB5.out nq
        generalize w5.drewN nq = w6 at *
        clear HL5 HB5
        go_wp2_with fail
        have HLe : Hid (L w6.drew) := HH.out.below _ _ HL6.out (Below.refl _ _).drew
        have HBe : Hid (Below w.heap.size w w6.drew) := HB6.out.drew
        refine wp_region_still_tail 20 (by kernel_rfl) (by kernel_rfl) ?_
        simp only [List.take_succ_cons, List.take_zero, List.drop_succ_cons, List.drop_zero]
        rw [show ({ heap := w6.heap, tape := w6.tape, drawn := w6.drawn + 1, os := w6.os, output := w6.output } : World) = w6.drew from rfl]
        generalize w6.drew = w7 at *
        clear HL6 HB6
        repeat still_step
        refine wpStill_nil ?_
        go_wp2_with fail
        refine (works5_any HH.out _ HLe.out).mono ?_
        rintro e w8 ⟨rfl, hb⟩
        go_wp2_with fail
        go_ret
        refine ⟨?_, below_then5 HBe.out hb⟩
        first
          | rfl
          | (show Ending.returned (Value.bool (!decide (p < q))) = _; simp [hpqd])
          | (show Ending.returned (Value.bool (decide (p < q))) = _; simp [hpqd])
end Go.Proofs.YtogkabdampkbjaaDoor
