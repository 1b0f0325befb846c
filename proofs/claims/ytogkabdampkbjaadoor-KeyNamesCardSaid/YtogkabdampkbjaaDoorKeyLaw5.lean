/- KeyNames: the walk, over the contracts of package key. -/
import Derived.Test.YtogkabdampkbjaaDoorKeyApi
import Derived.Test.YtogkabdampkbjaaDoorDecMath
namespace Go.Proofs.YtogkabdampkbjaaDoor
open Go Go.RowKit

theorem KeyOk.itoav {L : World → Prop} (H : KeyOk L) {n : Nat} {w : World} (t : ByteArray) (h0 : n ≤ 1000000000) (hL : L w) (hv : decS n = t) :
    Calls Tryd.prog 27 #[.int .i64 n] w fun e w' => e = .returned (.string t) ∧ L w' ∧ Below w.heap.size w w' :=
  (H.itoa n w h0 hL).mono fun e w' ⟨he, hb⟩ => ⟨by rw [he, ← hv]; rfl, H.below w w' hL hb, hb⟩

theorem digit_kpl (y : Int) (h : 48 ≤ y ∧ y ≤ 57) : 0 ≤ kpl y := by
  unfold kpl
  (repeat' split) <;> omega

theorem numS_name (n : Nat) : numS (⟨#[107]⟩ ++ decS n) = 107 :: decI n := by
  rw [numS_append, numS_decS]; rfl

theorem name_key (n : Nat) (h : n < 1000000) : kCheck (numS (⟨#[107]⟩ ++ decS n)) = 0 := by
  rw [numS_name]
  refine (kCheck_key _).2 ⟨by simp, ?_, fun c hc => ?_⟩
  · have := decS_size 5 n h
    rw [← numS_length, numS_decS] at this
    simp only [List.length_cons]
    omega
  · rcases List.mem_cons.1 hc with rfl | hc
    · decide
    · exact digit_kpl c (decI_rng n c hc)

theorem kName_nat (n : Nat) (h : n < 1000000) : kName (n : Int) = (⟨#[107]⟩ ++ decS n, 0) := by
  unfold kName
  rw [if_neg (by omega), Int.toNat_natCast]
  rfl

set_option maxHeartbeats 3200000 in
set_option maxRecDepth 100000 in
theorem keyNames_any {L : World → Prop} (H : KeyOk L) (A B : Nat) (w : World) (h : L w) (hA : A < 4294967296) (hB : B < 4294967296) :
    Calls Tryd.prog 9 #[.int .u32 A, .int .u32 B] w fun e w' => e = .returned (.bool true) ∧ Below w.heap.size w w' := by
  have HL0 := Lib.hid h
  have HB0 := Lib.hid (Below.refl w.heap.size w)
  have HH := Lib.hid H
  clear h H
  obtain ⟨m, hm⟩ : ∃ m : Nat, (A : Int) % 1000000 = (m : Int) := ⟨A % 1000000, by omega⟩
  obtain ⟨n, hn⟩ : ∃ n : Nat, (B : Int) % 1000000 = (n : Int) := ⟨B % 1000000, by omega⟩
  have hm6 : m < 1000000 := by omega
  have hn6 : n < 1000000 := by omega
  have hst := str_beq (⟨#[107]⟩ ++ decS m) (⟨#[107]⟩ ++ decS n)
  have hmn : (numS (⟨#[107]⟩ ++ decS m) = numS (⟨#[107]⟩ ++ decS n)) ↔ m = n := by
    rw [numS_name, numS_name]
    constructor
    · intro e; exact decI_inj m n (List.cons.inj e).2
    · intro e; rw [e]
  have hsz1 : (ByteArray.mk #[107] ++ decS m).size ≤ 7 := by
    rw [ByteArray.size_append]
    have := decS_size 5 m hm6
    have e : (ByteArray.mk #[107]).size = 1 := rfl
    omega
  have hsz2 : (ByteArray.mk #[107] ++ decS n).size ≤ 7 := by
    rw [ByteArray.size_append]
    have := decS_size 5 n hn6
    have e : (ByteArray.mk #[107]).size = 1 := rfl
    omega
  have hds := decS_size 5 m hm6
  have hor : (ByteArray.mk #[107] ++ decS m).size = (ByteArray.mk #[107] ++ decS n).size → (ordL (numS (⟨#[107]⟩ ++ decS m)) (numS (⟨#[107]⟩ ++ decS n)) < 0 ↔ m < n) := by
    intro e
    have hl : (decI m).length = (decI n).length := by
      rw [← numS_length, ← numS_length, numS_name, numS_name] at e
      simpa using e
    rw [numS_name, numS_name, ordL_cons, if_neg (by decide), if_neg (by decide)]
    exact decI_ord m n hl
  have h1 := kName_nat m hm6
  have h2 := kName_nat n hn6
  have h3 := name_key m hm6
  obtain ⟨D, hD⟩ : ∃ D, D = decS m := ⟨_, rfl⟩
  rw [← hD] at hds
  obtain ⟨S, hS⟩ : ∃ S, S = ⟨#[107]⟩ ++ decS m := ⟨_, rfl⟩
  obtain ⟨T, hT⟩ : ∃ T, T = ⟨#[107]⟩ ++ decS n := ⟨_, rfl⟩
  rw [← hS, ← hT] at hst hmn hor
  rw [← hS] at hsz1 h1 h3
  rw [← hT] at hsz2 h2
  have hSD : ⟨#[107]⟩ ++ D = S := by rw [hS, hD]
  have HS := Lib.hid h1
  have HT := Lib.hid h2
  have HC := Lib.hid h3
  have HD := Lib.hid hD.symm
  clear h1 h2 h3 hS hT hD
  by_cases hq : m = n
  · rw [decide_eq_true (hmn.2 hq)] at hst
    have hss : S = T := by
      have := hmn.2 hq
      have h2 := congrArg strI this
      rwa [strI_numS, strI_numS] at h2
    subst hss
    have hv := ordL_self (numS S)
    obtain ⟨v, hv2⟩ : ∃ v, v = (0 : Int) := ⟨_, rfl⟩
    rw [← hv2] at hv
    have HV := Lib.hid hv
    subst hv2
    subst hq
    clear hor hmn hv hst
    go_enter Tryd.func9, Tryd.ntmps9
    go_wp2_with fail
    refine (HH.out.namev S 0 (by omega) (by omega) HL0.out HS.out).mono ?_
    rintro e w1 ⟨rfl, hl, hb⟩
    have HL1 := Lib.hid hl
    have HB1 := Lib.hid (below_then5 HB0.out hb)
    clear hl hb HL0 HB0
    go_wp2_with fail
    refine (HH.out.namev S 0 (by omega) (by omega) HL1.out HT.out).mono ?_
    rintro e w2 ⟨rfl, hl, hb⟩
    have HL2 := Lib.hid hl
    have HB2 := Lib.hid (below_then5 HB1.out hb)
    clear hl hb HL1 HB1
    go_wp2_with fail
    refine (HH.out.checkv 0 (by omega) HL2.out HC.out).mono ?_
    rintro e w3 ⟨rfl, hl, hb⟩
    have HL3 := Lib.hid hl
    have HB3 := Lib.hid (below_then5 HB2.out hb)
    clear hl hb HL2 HB2
    go_wp2_with fail
    refine (HH.out.itoav D (by omega) HL3.out HD.out).mono ?_
    rintro e w4 ⟨rfl, hl, hb⟩
    have HL4 := Lib.hid hl
    have HB4 := Lib.hid (below_then5 HB3.out hb)
    clear hl hb HL3 HB3
    go_wp2_with fail
    refine (HH.out.orderv 0 (by omega) (by omega) HL4.out HV.out).mono ?_
    rintro e w5 ⟨rfl, hl, hb⟩
    have HL5 := Lib.hid hl
    have HB5 := Lib.hid (below_then5 HB4.out hb)
    clear hl hb HL4 HB4
    go_wp2_with fail
    refine (works5_any HH.out _ HL5.out).mono ?_
    rintro e wz ⟨rfl, hb⟩
    go_wp2_with fail
    go_ret
    exact ⟨rfl, below_then5 HB5.out hb⟩
  · rw [decide_eq_false (fun e => hq (hmn.1 e))] at hst
    have hqi : ((m : Int) == (n : Int)) = false := by rw [beq_eq_false_iff_ne]; omega
    by_cases hl : S.size = T.size
    · have hli : ((S.size : Int) == (T.size : Int)) = true := by rw [beq_iff_eq]; omega
      have ho := hor hl
      obtain ⟨v, hv⟩ : ∃ v, v = ordL (numS S) (numS T) := ⟨_, rfl⟩
      rw [← hv] at ho
      have HV := Lib.hid hv.symm
      clear hor hmn hv hl hq
      by_cases hlt : m < n
      · have hv0 : v < 0 := ho.2 hlt
        clear ho
        go_enter Tryd.func9, Tryd.ntmps9
        go_wp2_with fail
        refine (HH.out.namev S 0 (by omega) (by omega) HL0.out HS.out).mono ?_
        rintro e w1 ⟨rfl, hl, hb⟩
        have HL1 := Lib.hid hl
        have HB1 := Lib.hid (below_then5 HB0.out hb)
        clear hl hb HL0 HB0
        go_wp2_with fail
        refine (HH.out.namev T 0 (by omega) (by omega) HL1.out HT.out).mono ?_
        rintro e w2 ⟨rfl, hl, hb⟩
        have HL2 := Lib.hid hl
        have HB2 := Lib.hid (below_then5 HB1.out hb)
        clear hl hb HL1 HB1
        go_wp2_with fail
        refine (HH.out.checkv 0 (by omega) HL2.out HC.out).mono ?_
        rintro e w3 ⟨rfl, hl, hb⟩
        have HL3 := Lib.hid hl
        have HB3 := Lib.hid (below_then5 HB2.out hb)
        clear hl hb HL2 HB2
        go_wp2_with fail
        refine (HH.out.itoav D (by omega) HL3.out HD.out).mono ?_
        rintro e w4 ⟨rfl, hl, hb⟩
        have HL4 := Lib.hid hl
        have HB4 := Lib.hid (below_then5 HB3.out hb)
        clear hl hb HL3 HB3
        go_wp2_with fail
        refine (HH.out.orderv v (by omega) (by omega) HL4.out HV.out).mono ?_
        rintro e w5 ⟨rfl, hl, hb⟩
        have HL5 := Lib.hid hl
        have HB5 := Lib.hid (below_then5 HB4.out hb)
        clear hl hb HL4 HB4
        go_wp2_with fail
        refine (works5_any HH.out _ HL5.out).mono ?_
        rintro e wz ⟨rfl, hb⟩
        go_wp2_with fail
        go_ret
        exact ⟨rfl, below_then5 HB5.out hb⟩
      · have hv0 : ¬ v < 0 := fun e => hlt (ho.1 e)
        clear ho
        go_enter Tryd.func9, Tryd.ntmps9
        go_wp2_with fail
        refine (HH.out.namev S 0 (by omega) (by omega) HL0.out HS.out).mono ?_
        rintro e w1 ⟨rfl, hl, hb⟩
        have HL1 := Lib.hid hl
        have HB1 := Lib.hid (below_then5 HB0.out hb)
        clear hl hb HL0 HB0
        go_wp2_with fail
        refine (HH.out.namev T 0 (by omega) (by omega) HL1.out HT.out).mono ?_
        rintro e w2 ⟨rfl, hl, hb⟩
        have HL2 := Lib.hid hl
        have HB2 := Lib.hid (below_then5 HB1.out hb)
        clear hl hb HL1 HB1
        go_wp2_with fail
        refine (HH.out.checkv 0 (by omega) HL2.out HC.out).mono ?_
        rintro e w3 ⟨rfl, hl, hb⟩
        have HL3 := Lib.hid hl
        have HB3 := Lib.hid (below_then5 HB2.out hb)
        clear hl hb HL2 HB2
        go_wp2_with fail
        refine (HH.out.itoav D (by omega) HL3.out HD.out).mono ?_
        rintro e w4 ⟨rfl, hl, hb⟩
        have HL4 := Lib.hid hl
        have HB4 := Lib.hid (below_then5 HB3.out hb)
        clear hl hb HL3 HB3
        go_wp2_with fail
        refine (HH.out.orderv v (by omega) (by omega) HL4.out HV.out).mono ?_
        rintro e w5 ⟨rfl, hl, hb⟩
        have HL5 := Lib.hid hl
        have HB5 := Lib.hid (below_then5 HB4.out hb)
        clear hl hb HL4 HB4
        go_wp2_with fail
        refine (works5_any HH.out _ HL5.out).mono ?_
        rintro e wz ⟨rfl, hb⟩
        go_wp2_with fail
        go_ret
        exact ⟨rfl, below_then5 HB5.out hb⟩
    · have hli : ((S.size : Int) == (T.size : Int)) = false := by rw [beq_eq_false_iff_ne]; omega
      clear hor hmn hl hq
      go_enter Tryd.func9, Tryd.ntmps9
      go_wp2_with fail
      refine (HH.out.namev S 0 (by omega) (by omega) HL0.out HS.out).mono ?_
      rintro e w1 ⟨rfl, hl, hb⟩
      have HL1 := Lib.hid hl
      have HB1 := Lib.hid (below_then5 HB0.out hb)
      clear hl hb HL0 HB0
      go_wp2_with fail
      refine (HH.out.namev T 0 (by omega) (by omega) HL1.out HT.out).mono ?_
      rintro e w2 ⟨rfl, hl, hb⟩
      have HL2 := Lib.hid hl
      have HB2 := Lib.hid (below_then5 HB1.out hb)
      clear hl hb HL1 HB1
      go_wp2_with fail
      refine (HH.out.checkv 0 (by omega) HL2.out HC.out).mono ?_
      rintro e w3 ⟨rfl, hl, hb⟩
      have HL3 := Lib.hid hl
      have HB3 := Lib.hid (below_then5 HB2.out hb)
      clear hl hb HL2 HB2
      go_wp2_with fail
      refine (HH.out.itoav D (by omega) HL3.out HD.out).mono ?_
      rintro e w4 ⟨rfl, hl, hb⟩
      have HL4 := Lib.hid hl
      have HB4 := Lib.hid (below_then5 HB3.out hb)
      clear hl hb HL3 HB3
      go_wp2_with fail
      refine (works5_any HH.out _ HL4.out).mono ?_
      rintro e wz ⟨rfl, hb⟩
      go_wp2_with fail
      go_ret
      exact ⟨rfl, below_then5 HB4.out hb⟩
end Go.Proofs.YtogkabdampkbjaaDoor
