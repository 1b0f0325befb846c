/- ValueBegins: the walk, over the contracts of package value. -/
import Derived.Test.YtjadlianlnaomaaDoorValLaw3
import Derived.Test.YtjadlianlnaomaaDoorMath4
import Derived.Deep.QuietTactic
import Derived.BigQuiet
namespace Go.Proofs.YtjadlianlnaomaaDoor
open Go Go.RowKit

/-- The digits of a length, as numbers. -/
def decI (n : Nat) : List Int := (Lib.decDigits n).map fun b => (b.toNat : Int)

theorem numS_decS (n : Nat) : numS (decS n) = decI n := rfl

theorem decI_rng (n : Nat) : ∀ y ∈ decI n, 48 ≤ y ∧ y ≤ 57 := by
  intro y hy
  unfold decI at hy
  rw [List.mem_map] at hy
  obtain ⟨b, hb, rfl⟩ := hy
  have h := (dec_facts n).1
  rw [List.all_eq_true] at h
  have := h b hb
  simp [digB] at this
  omega

theorem decI_ne (n : Nat) : 0 < (decI n).length := by
  unfold decI
  rw [List.length_map]
  exact List.length_pos_iff.2 (dec_facts n).2.1

/-- The number that digits say. -/
def decV (acc : Nat) : List Int → Nat
  | [] => acc
  | y :: r => decV (acc * 10 + (y.toNat - 48)) r

theorem decV_append (a b : List Int) : ∀ acc, decV acc (a ++ b) = decV (decV acc a) b := by
  induction a with
  | nil => intro acc; rfl
  | cons y r ih => intro acc; exact ih _

theorem decV_le (l : List Int) : ∀ acc, acc ≤ decV acc l := by
  induction l with
  | nil => intro acc; exact Nat.le_refl _
  | cons y r ih => intro acc; exact Nat.le_trans (by omega) (ih _)

theorem decV_dec (n : Nat) : decV 0 (decI n) = n := by
  have h : ∀ (l : List UInt8) acc, decV acc (l.map fun b => (b.toNat : Int)) = decN acc l := by
    intro l
    induction l with
    | nil => intro acc; rfl
    | cons c r ih => intro acc; exact ih (acc * 10 + (c.toNat - 48))
  unfold decI
  rw [h]
  exact (dec_facts n).2.2.2

theorem split58 : ∀ (a b r s : List Int), (∀ y ∈ a, y ≤ 57) → (∀ y ∈ b, y ≤ 57) → a ++ 58 :: r = b ++ 58 :: s → a = b ∧ r = s
  | [], [], r, s, _, _, h => by simp at h; exact ⟨rfl, h⟩
  | [], y :: b, r, s, _, hb, h => by
    simp at h
    have := hb y (by simp)
    omega
  | y :: a, [], r, s, ha, _, h => by
    simp at h
    have := ha y (by simp)
    omega
  | y :: a, z :: b, r, s, ha, hb, h => by
    simp at h
    obtain ⟨h1, h2⟩ := split58 a b r s (fun q hq => ha q (by simp [hq])) (fun q hq => hb q (by simp [hq])) (by simpa using h.2)
    exact ⟨by rw [h.1, h1], h2⟩

/-- The description, as numbers. -/
theorem numS_short (s : ByteArray) : numS (vShort s) = decI s.size ++ 58 :: (hexI ((numS s).take 8) ++ if 8 < s.size then [46, 46] else []) := by
  have hr := hexI_rng _ (fun x hx => numS_rng s x (List.mem_of_mem_take (i := 8) hx))
  unfold vShort
  by_cases h : 8 < s.size
  · rw [if_pos h, if_pos h, numS_append, numS_append, numS_append, numS_decS, numS_strI _ hr]
    rw [show numS (ByteArray.mk #[58]) = [58] from rfl, show numS (ByteArray.mk #[46, 46]) = [46, 46] from rfl]
    simp
  · rw [if_neg h, if_neg h, numS_append, numS_append, numS_decS]
    have htk : (numS s).take 8 = numS s := List.take_of_length_le (by rw [numS_length]; omega)
    rw [htk] at hr ⊢
    rw [numS_strI _ hr, show numS (ByteArray.mk #[58]) = [58] from rfl]
    simp

theorem short_size (s : ByteArray) : (vShort s).size = (decI s.size).length + 1 + 2 * min 8 s.size + (if 8 < s.size then 2 else 0) := by
  rw [← numS_length, numS_short, List.length_append, List.length_cons, List.length_append, hexI_length, List.length_take, numS_length]
  split <;> simp <;> omega

theorem short_eq (a b : ByteArray) (i j : Nat) (hi : i = min 8 a.size) (hj : j = min 8 b.size) : ((vShort a).toList == (vShort b).toList) = (decide (a.size = b.size) && ((a.extract 0 i).toList == (b.extract 0 j).toList)) := by
  have e1 : numS (a.extract 0 i) = (numS a).take 8 := by
    rw [numS_extract, List.drop_zero, hi]
    apply List.ext_getElem?
    intro q
    rw [List.getElem?_take, List.getElem?_take]
    have := numS_length a
    by_cases h8 : q < 8
    · rw [if_pos h8]
      by_cases hq : q < a.size
      · rw [if_pos (by omega)]
      · rw [if_neg (by omega), List.getElem?_eq_none (by omega)]
    · rw [if_neg h8, if_neg (by omega)]
  have e2 : numS (b.extract 0 j) = (numS b).take 8 := by
    rw [numS_extract, List.drop_zero, hj]
    apply List.ext_getElem?
    intro q
    rw [List.getElem?_take, List.getElem?_take]
    have := numS_length b
    by_cases h8 : q < 8
    · rw [if_pos h8]
      by_cases hq : q < b.size
      · rw [if_pos (by omega)]
      · rw [if_neg (by omega), List.getElem?_eq_none (by omega)]
    · rw [if_neg h8, if_neg (by omega)]
  rw [str_beq, str_beq, e1, e2, numS_short, numS_short, ← Bool.decide_and, decide_eq_decide]
  constructor
  · intro h
    obtain ⟨h1, h2⟩ := split58 _ _ _ _ (fun y hy => (decI_rng _ y hy).2) (fun y hy => (decI_rng _ y hy).2) h
    have h3 : a.size = b.size := by rw [← decV_dec a.size, h1, decV_dec]
    refine ⟨h3, ?_⟩
    rw [h3] at h2
    have h4 := List.append_cancel_right h2
    have ra : ∀ x ∈ (numS a).take 8, 0 ≤ x ∧ x < 256 := fun x hx => numS_rng a x (List.mem_of_mem_take hx)
    have rb : ∀ x ∈ (numS b).take 8, 0 ≤ x ∧ x < 256 := fun x hx => numS_rng b x (List.mem_of_mem_take hx)
    rw [← (ph_hexI _ ra).2, ← (ph_hexI _ rb).2, h4]
  · rintro ⟨h1, h2⟩
    rw [h1, h2]

set_option maxHeartbeats 3200000 in
set_option maxRecDepth 100000 in
theorem valueBegins_any {L : World → Prop} (H : ValOk L) (a b : ByteArray) (w : World) (h : L w) :
    Calls Tryd.prog 12 #[.string a, .string b] w fun e w' => e = .returned (.bool true) ∧ Below w.heap.size w w' := by
  have HL := Lib.hid h
  have HH := Lib.hid H
  clear h H
  by_cases hbig : 300 < a.size
  · go_enter Tryd.func12, Tryd.ntmps12
    go_wp2_with fail
    refine (works6_any HH.out _ HL.out).mono ?_
    rintro e w1 ⟨rfl, hb⟩
    go_wp2_with fail
    go_ret
    exact ⟨rfl, hb⟩
  by_cases hbig2 : 300 < b.size
  · go_enter Tryd.func12, Tryd.ntmps12
    go_wp2_with fail
    refine (works6_any HH.out _ HL.out).mono ?_
    rintro e w1 ⟨rfl, hb⟩
    go_wp2_with fail
    go_ret
    exact ⟨rfl, hb⟩
  obtain ⟨i, hi⟩ : ∃ i : Nat, min (8 : Int) (a.size : Int) = (i : Int) := ⟨min 8 a.size, by omega⟩
  obtain ⟨j, hj⟩ : ∃ j : Nat, min (8 : Int) (b.size : Int) = (j : Int) := ⟨min 8 b.size, by omega⟩
  have hse := short_eq a b i j (by omega) (by omega)
  have hil : i ≤ a.size := by omega
  have hjl : j ≤ b.size := by omega
  have hsx := short_size a
  have hsy : (vShort b).size ≤ 1000000 := by
    have h1 := short_size b
    have h2 : (decI b.size).length ≤ 6 := by
      have := decS_size 5 b.size (by omega)
      rw [← numS_length, numS_decS] at this
      exact this
    split at h1 <;> omega
  have hd6 : (decI a.size).length ≤ 6 := by
    have := decS_size 5 a.size (by omega)
    rw [← numS_length, numS_decS] at this
    exact this
  have hd0 := decI_ne a.size
  obtain ⟨d, hd⟩ : ∃ d, d = (decI a.size).length := ⟨_, rfl⟩
  rw [← hd] at hsx hd6 hd0
  -- what the loop reads
  have hnx := numS_short a
  have HIx : Hid (∀ q, q < d → (∀ w, (Instr.index 9 (.string (vShort a)) (.int .i64 q)).run Tryd.prog w = .ok (.int .u8 ((decI a.size).getD q 0)) w) ∧ 48 ≤ (decI a.size).getD q 0 ∧ (decI a.size).getD q 0 ≤ 57) := by
    intro q hq
    refine ⟨fun w => ?_, ?_⟩
    · rw [index_s (vShort a) q (by rw [hsx]; omega) w, hnx]
      congr 2
      simp only [List.getD_eq_getElem?_getD]
      rw [List.getElem?_append_left (by omega)]
    · have hq2 : q < (decI a.size).length := by omega
      simp only [List.getD_eq_getElem?_getD, List.getElem?_eq_getElem hq2, Option.getD_some]
      exact decI_rng _ _ (List.getElem_mem _)
  have HId : Hid (∀ w, (Instr.index 9 (.string (vShort a)) (.int .i64 d)).run Tryd.prog w = .ok (.int .u8 58) w) := by
    intro w
    rw [index_s (vShort a) d (by rw [hsx]; omega) w, hnx]
    congr 2
    simp only [List.getD_eq_getElem?_getD]
    rw [List.getElem?_append_right (by omega), hd, Nat.sub_self]
    rfl
  have HDv : Hid (∀ q, q < d → decV 0 ((decI a.size).take (q + 1)) = decV 0 ((decI a.size).take q) * 10 + (((decI a.size).getD q 0).toNat - 48)) := by
    intro q hq
    rw [take_succ_getD _ _ (by omega), decV_append]
    rfl
  have HDl : Hid (∀ q, decV 0 ((decI a.size).take q) ≤ a.size) := by
    intro q
    have h1 := decV_append ((decI a.size).take q) ((decI a.size).drop q) 0
    rw [List.take_append_drop, decV_dec] at h1
    have h2 := decV_le ((decI a.size).drop q) (decV 0 ((decI a.size).take q))
    omega
  have HDe : Hid (decV 0 ((decI a.size).take d) = a.size) := by
    show decV 0 ((decI a.size).take d) = a.size
    rw [hd, List.take_length, decV_dec]
  have HLast : Hid (8 < a.size → (((vShort a).extract ((vShort a).size - 2) (vShort a).size).toList == [46, 46]) = true) := by
    intro h8
    rw [str_const, decide_eq_true_iff, numS_extract, List.take_of_length_le (by rw [numS_length]; exact Nat.le_refl _), hnx, if_pos h8, hsx, if_pos h8]
    have e : decI a.size ++ 58 :: (hexI ((numS a).take 8) ++ [46, 46]) = (decI a.size ++ 58 :: hexI ((numS a).take 8)) ++ [46, 46] := by simp
    rw [e, List.drop_append_of_le_length]
    · rw [List.drop_of_length_le]
      · rfl
      · rw [List.length_append, List.length_cons, hexI_length, List.length_take, numS_length, ← hd]; omega
    · rw [List.length_append, List.length_cons, hexI_length, List.length_take, numS_length, ← hd]; omega
  obtain ⟨x, hx⟩ : ∃ x, x = vShort a := ⟨_, rfl⟩
  obtain ⟨y, hy⟩ : ∃ y, y = vShort b := ⟨_, rfl⟩
  rw [← hx] at hse hsx HIx HId HLast
  rw [← hy] at hse hsy
  have HX := Lib.hid hx.symm
  have HY := Lib.hid hy.symm
  obtain ⟨C, hC⟩ : ∃ C : Nat → Int, C = fun q => (decI a.size).getD q 0 := ⟨_, rfl⟩
  obtain ⟨V, hV⟩ : ∃ V : Nat → Nat, V = fun q => decV 0 ((decI a.size).take q) := ⟨_, rfl⟩
  have HIc : Hid (∀ q, q < d → (∀ w, (Instr.index 9 (.string x) (.int .i64 q)).run Tryd.prog w = .ok (.int .u8 (C q)) w) ∧ 48 ≤ C q ∧ C q ≤ 57) := by rw [hC]; exact HIx
  have HV1 : Hid (∀ q, q < d → V (q + 1) = V q * 10 + ((C q).toNat - 48)) := by rw [hC, hV]; exact HDv
  have HV2 : Hid (∀ q, V q ≤ a.size) := by rw [hV]; exact HDl
  have HV3 : Hid (V d = a.size) := by rw [hV]; exact HDe
  have HV0 : Hid (V 0 = 0) := by show V 0 = 0; rw [hV]; rfl
  have hxb : x.size ≤ 100 := by split at hsx <;> omega
  have HSx := Lib.hid hsx
  have hxd : d < x.size := by omega
  clear hx hy hC hV hd hnx HIx HDv HDl HDe hsx
  by_cases hsz : a.size = b.size
  · obtain ⟨v, hv⟩ : ∃ v, v = ((a.extract 0 i).toList == (b.extract 0 j).toList) := ⟨_, rfl⟩
    rw [decide_eq_true hsz, Bool.true_and, ← hv] at hse
    have hij : i = j := by omega
    subst hij
    have hv2 := hv.symm
    have hszi : (b.size : Int) = (a.size : Int) := by omega
    clear hv hsz
    · -- the same length
      go_enter Tryd.func12, Tryd.ntmps12
      go_wp2_with fail
      refine (HH.out.shortv x (by omega) HL.out HX.out).mono ?_
      rintro e w1 ⟨rfl, hl, hb⟩
      have HL1 := Lib.hid hl
      have HB1 := Lib.hid hb
      clear hl hb HL
      go_wp2_with fail
      refine (HH.out.shortv y (by omega) HL1.out HY.out).mono ?_
      rintro e w2 ⟨rfl, hl, hb⟩
      have HL2 := Lib.hid hl
      have HB2 := Lib.hid (below_then2 HB1.out hb)
      clear hl hb HL1 HB1
      go_wp2_with fail
      go_quiet (fail)
      rename_i nq
      have HG : Hid (L (w2.drewN nq) ∧ Below w.heap.size w (w2.drewN nq)) := ⟨HH.out.below _ _ HL2.out (below_drewN (Below.refl _ _) nq), below_drewN HB2.out nq⟩
      clear HL2 HB2
      generalize w2.drewN nq = w3 at *
      go_wp2_with fail
      go_loopw [8, 9] (fun va vn wr => ∃ q : Nat, q ≤ d ∧ va = .int .i64 q ∧ vn = .int .i64 (V q : Nat) ∧ Hid (L wr ∧ Below w.heap.size w wr)) (fun va _ _ => d - (intOf va).toNat)
      case atStart => exact ⟨0, by omega, rfl, by rw [HV0.out]; rfl, HG⟩
      case round =>
        clear HG
        obtain ⟨q, hq, rfl, rfl, HR⟩ := hrel
        by_cases hlt : q < d
        · obtain ⟨ixq, hc0, hc1⟩ := HIc.out q hlt
          have hv1 := HV1.out q hlt
          have hvl := HV2.out q
          have hvl1 := HV2.out (q + 1)
          generalize C q = c at *
          have hqx : (q : Int) < (x.size : Int) := by omega
          have hwc := wrap_u8 (c - 48) (by omega) (by omega)
          have hvi : (V q : Int) * 10 + (c - 48) = ((V (q + 1) : Nat) : Int) := by omega
          have HQ : Hid (V q ≤ a.size ∧ V (q + 1) ≤ a.size) := ⟨hvl, hvl1⟩
          have hb1 : (V q : Int) * 10 ≤ 3000 := by omega
          have hb2 : (V q : Int) ≤ 300 := by omega
          clear hv1 hvl1
          go_wp2_with fail
          go_roundw
          case rel => exact ⟨q + 1, by omega, by go_num, by rw [← hvi], HR⟩
          case measure => simp [intOf]; omega
        · have hqd : q = d := by omega
          subst hqd
          have hvd := HV3.out
          rw [hvd]
          have ixd := HId.out
          have hqx : (q : Int) < (x.size : Int) := by omega
          have hq0 : ((q : Int) == 0) = false := by rw [beq_eq_false_iff_ne]; omega
          have hxq : ¬ x.size ≤ q := by omega
          have hvv : (v != v) = false := by cases v <;> rfl
          clear HIc HV1 HV2 HV3 HV0 HId hvd hj hi hjl hil
          by_cases h8 : 8 < a.size
          · have hs := HSx.out
            rw [if_pos h8, Nat.min_eq_left (by omega)] at hs
            have hrest : (x.size : Int) - (q : Int) - 1 = 18 := by omega
            obtain ⟨x2, hx2⟩ : ∃ x2, x2 = x.size - 2 := ⟨_, rfl⟩
            have hx2i : (x.size : Int) - 2 = (x2 : Int) := by omega
            have hx2l : x2 ≤ x.size := by omega
            have hlast := HLast.out h8
            rw [← hx2] at hlast
            have h8n : ¬ a.size ≤ 8 := by omega
            clear hs HSx HLast hx2
            go_wp2_with fail
            refine (works6_any HH.out _ HR.out.1).mono ?_
            rintro e w4 ⟨rfl, hb⟩
            go_wp2_with fail
            go_ret
            exact ⟨rfl, HR.out.2.trans (hb.mono HR.out.2.size)⟩
          · have hs := HSx.out
            rw [if_neg h8, Nat.min_eq_right (by omega)] at hs
            have hrest : (x.size : Int) - (q : Int) - 1 = 2 * (a.size : Int) := by omega
            have h8n : a.size ≤ 8 := by omega
            clear hs HSx HLast
            go_wp2_with fail
            refine (works6_any HH.out _ HR.out.1).mono ?_
            rintro e w4 ⟨rfl, hb⟩
            go_wp2_with fail
            go_ret
            exact ⟨rfl, HR.out.2.trans (hb.mono HR.out.2.size)⟩
  · rw [decide_eq_false hsz, Bool.false_and] at hse
    obtain ⟨v, hv⟩ : ∃ v, v = false := ⟨_, rfl⟩
    have hszi : ((a.size : Int) == (b.size : Int)) = false := by rw [beq_eq_false_iff_ne]; omega
    clear hsz
    · -- other lengths
      go_enter Tryd.func12, Tryd.ntmps12
      go_wp2_with fail
      refine (HH.out.shortv x (by omega) HL.out HX.out).mono ?_
      rintro e w1 ⟨rfl, hl, hb⟩
      have HL1 := Lib.hid hl
      have HB1 := Lib.hid hb
      clear hl hb HL
      go_wp2_with fail
      refine (HH.out.shortv y (by omega) HL1.out HY.out).mono ?_
      rintro e w2 ⟨rfl, hl, hb⟩
      have HL2 := Lib.hid hl
      have HB2 := Lib.hid (below_then2 HB1.out hb)
      clear hl hb HL1 HB1
      go_wp2_with fail
      go_quiet (fail)
      rename_i nq
      have HG : Hid (L (w2.drewN nq) ∧ Below w.heap.size w (w2.drewN nq)) := ⟨HH.out.below _ _ HL2.out (below_drewN (Below.refl _ _) nq), below_drewN HB2.out nq⟩
      clear HL2 HB2
      generalize w2.drewN nq = w3 at *
      go_wp2_with fail
      go_loopw [8, 9] (fun va vn wr => ∃ q : Nat, q ≤ d ∧ va = .int .i64 q ∧ vn = .int .i64 (V q : Nat) ∧ Hid (L wr ∧ Below w.heap.size w wr)) (fun va _ _ => d - (intOf va).toNat)
      case atStart => exact ⟨0, by omega, rfl, by rw [HV0.out]; rfl, HG⟩
      case round =>
        clear HG
        obtain ⟨q, hq, rfl, rfl, HR⟩ := hrel
        by_cases hlt : q < d
        · obtain ⟨ixq, hc0, hc1⟩ := HIc.out q hlt
          have hv1 := HV1.out q hlt
          have hvl := HV2.out q
          have hvl1 := HV2.out (q + 1)
          generalize C q = c at *
          have hqx : (q : Int) < (x.size : Int) := by omega
          have hwc := wrap_u8 (c - 48) (by omega) (by omega)
          have hvi : (V q : Int) * 10 + (c - 48) = ((V (q + 1) : Nat) : Int) := by omega
          have HQ : Hid (V q ≤ a.size ∧ V (q + 1) ≤ a.size) := ⟨hvl, hvl1⟩
          have hb1 : (V q : Int) * 10 ≤ 3000 := by omega
          have hb2 : (V q : Int) ≤ 300 := by omega
          clear hv1 hvl1
          go_wp2_with fail
          go_roundw
          case rel => exact ⟨q + 1, by omega, by go_num, by rw [← hvi], HR⟩
          case measure => simp [intOf]; omega
        · have hqd : q = d := by omega
          subst hqd
          have hvd := HV3.out
          rw [hvd]
          have ixd := HId.out
          have hqx : (q : Int) < (x.size : Int) := by omega
          have hq0 : ((q : Int) == 0) = false := by rw [beq_eq_false_iff_ne]; omega
          have hxq : ¬ x.size ≤ q := by omega
          have hvv : (v != v) = false := by cases v <;> rfl
          clear HIc HV1 HV2 HV3 HV0 HId hvd hj hi hjl hil
          by_cases h8 : 8 < a.size
          · have hs := HSx.out
            rw [if_pos h8, Nat.min_eq_left (by omega)] at hs
            have hrest : (x.size : Int) - (q : Int) - 1 = 18 := by omega
            obtain ⟨x2, hx2⟩ : ∃ x2, x2 = x.size - 2 := ⟨_, rfl⟩
            have hx2i : (x.size : Int) - 2 = (x2 : Int) := by omega
            have hx2l : x2 ≤ x.size := by omega
            have hlast := HLast.out h8
            rw [← hx2] at hlast
            have h8n : ¬ a.size ≤ 8 := by omega
            clear hs HSx HLast hx2
            go_wp2_with fail
            refine (works6_any HH.out _ HR.out.1).mono ?_
            rintro e w4 ⟨rfl, hb⟩
            go_wp2_with fail
            go_ret
            exact ⟨rfl, HR.out.2.trans (hb.mono HR.out.2.size)⟩
          · have hs := HSx.out
            rw [if_neg h8, Nat.min_eq_right (by omega)] at hs
            have hrest : (x.size : Int) - (q : Int) - 1 = 2 * (a.size : Int) := by omega
            have h8n : a.size ≤ 8 := by omega
            clear hs HSx HLast
            go_wp2_with fail
            refine (works6_any HH.out _ HR.out.1).mono ?_
            rintro e w4 ⟨rfl, hb⟩
            go_wp2_with fail
            go_ret
            exact ⟨rfl, HR.out.2.trans (hb.mono HR.out.2.size)⟩
end Go.Proofs.YtjadlianlnaomaaDoor
