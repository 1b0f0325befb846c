/- The document's own functions on keys (drumlinref05): Next, Name. -/
import Derived.Test.YtogkabdampkbjaaDoorKeyRef2
import Derived.Test.YtogkabdampkbjaaDoorDigRef
namespace Go.Proofs.YtogkabdampkbjaaDoor
open Go Go.RowKit

/-- What Next returns. -/
def kNextS (s : ByteArray) : ByteArray × Bool := match kNext (numS s) with
  | none => (⟨#[]⟩, false)
  | some n => (strI n, true)

theorem strI_dash (s : ByteArray) : strI (numS s ++ [45]) = s ++ ⟨#[45]⟩ := by
  rw [← strI_append, strI_numS]; rfl

theorem keyS_first : keyS.extract 0 1 = ⟨#[45]⟩ := by decide +kernel

theorem keyS_cut (k : Nat) (h : k < 39) : keyS.extract k (k + 1) = strI [keyL.getD k 0] := by
  have key : ∀ k : Fin 39, keyS.extract k.val (k.val + 1) = strI [keyL.getD k.val 0] := by decide +kernel
  exact key ⟨k, h⟩

set_option maxHeartbeats 1600000 in
set_option maxRecDepth 100000 in
theorem rNext_any (s : ByteArray) (w : World) (hl : s.size ≤ 1000000) :
    Calls Tryd.prog 21 #[.string s] w fun e w' => e = .returned (.tuple #[.string (kNextS s).1, .bool (kNextS s).2]) ∧ Below w.heap.size w w' := by
  obtain ⟨r, hr⟩ : ∃ r, r = kNextS s := ⟨_, rfl⟩
  rw [← hr]
  unfold kNextS kNext at hr
  rw [numS_length] at hr
  have HC := Lib.hid (rkCheck_any s w hl)
  have hkey := (kCheck_key (numS s)).1
  generalize kCheck (numS s) = c at *
  by_cases h1 : c = 0
  · rw [if_neg (by simp [h1])] at hr
    have hK := hkey h1
    subst h1
    have HLt := Lib.hid rletters_any
    have hks := keyS_size
    by_cases h2 : s.size < 32
    · rw [if_pos h2] at hr
      simp only at hr
      rw [strI_dash] at hr
      have hk1 := keyS_first
      generalize keyS = ks at *
      subst hr
      have h2i : (s.size : Int) < 32 := by omega
      clear hkey hK
      go_enter Tryd.func21, Tryd.ntmps21
      go_wp2_with fail
      refine HC.out.mono ?_
      rintro e w' ⟨rfl, rfl⟩
      go_wp2_with fail
      refine (HLt.out _).mono ?_
      rintro e w' ⟨rfl, rfl⟩
      go_wp2_with fail
      go_ret2
      exact ⟨rfl, Below.refl _ _⟩
    · rw [if_neg h2] at hr
      have h2i : ¬ (s.size : Int) < 32 := by omega
      have HRes := Lib.hid hr
      have HPl := Lib.hid rplace_any
      have HIx := Lib.hid (index_s s)
      have HKc : Hid (∀ q, q < s.size → 0 ≤ kpl ((numS s).getD q 0)) := by
        intro q hq
        have hql : q < (numS s).length := by rw [numS_length]; exact hq
        simp only [List.getD_eq_getElem?_getD, List.getElem?_eq_getElem hql, Option.getD_some]
        exact hK.ch _ (List.getElem_mem _)
      have HCut := Lib.hid keyS_cut
      generalize keyS = ks at *
      clear hr hkey hK
      go_enter Tryd.func21, Tryd.ntmps21
      go_wp2_with fail
      refine HC.out.mono ?_
      rintro e w' ⟨rfl, rfl⟩
      go_wp2_with fail
      go_loopw [4] (fun i wr => ∃ (j : Nat) (z : Int), j ≤ s.size ∧ z = (j : Int) - 1 ∧ i = .int .i64 z ∧ Hid (nxtAt (numS s) s.size = nxtAt (numS s) j ∧ wr = w')) (fun i _ => (intOf i + 1).toNat)
      case atStart => exact ⟨s.size, _, Nat.le_refl _, rfl, rfl, rfl, rfl⟩
      case round =>
        obtain ⟨j, z, hj, hz, rfl, HR⟩ := hrel
        have hwr := HR.out.2
        subst hwr
        by_cases hj0 : j = 0
        · have hres : r = (⟨#[]⟩, false) := by
            rw [HRes.out, HR.out.1, hj0]; rfl
          subst hres
          have hzn : z < 0 := by omega
          clear hz
          go_wp2_with fail
          go_ret2
          exact ⟨rfl, Below.refl _ _⟩
        · obtain ⟨q, rfl⟩ : ∃ q, j = q + 1 := ⟨j - 1, by omega⟩
          have hzq : z = (q : Int) := by omega
          subst hzq
          have ixq := HIx.out q (by omega)
          have hk0 := HKc.out q (by omega)
          have hstep : nxtAt (numS s) (q + 1) = if kpl ((numS s).getD q 0) < 38 then some ((numS s).take q ++ [keyL.getD (kpl ((numS s).getD q 0) + 1).toNat 0]) else nxtAt (numS s) q := rfl
          generalize (numS s).getD q 0 = x at *
          obtain ⟨k, hk⟩ := Int.eq_ofNat_of_zero_le hk0
          have hkx : kpl x = (k : Int) := hk
          have hq0 : (0 : Int) ≤ (q : Int) := by omega
          have hqs : (q : Int) ≤ (s.size : Int) := by omega
          by_cases hk38 : k < 38
          · have hcut := HCut.out (k + 1) (by omega)
            have hres : r = (s.extract 0 q ++ ks.extract (k + 1) (k + 1 + 1), true) := by
              rw [HRes.out, HR.out.1, hstep, if_pos (by omega), hkx, hcut, extract_strI, List.drop_zero, strI_append]
              rfl
            obtain ⟨k1, hk1⟩ : ∃ k1, k1 = k + 1 := ⟨_, rfl⟩
            obtain ⟨k2, hk2⟩ : ∃ k2, k2 = k1 + 1 := ⟨_, rfl⟩
            rw [← hk1, ← hk2] at hres
            subst hres
            have hk38i : (k : Int) < 38 := by omega
            have hk1i : (k : Int) + 1 = (k1 : Int) := by omega
            have hk2i : (k : Int) + 2 = (k2 : Int) := by omega
            have hk12 : (k1 : Int) ≤ (k2 : Int) := by omega
            have hk239 : (k2 : Int) ≤ 39 := by omega
            have hk10 : (0 : Int) ≤ (k1 : Int) := by omega
            have hse : (s.extract 0 q).size ≤ 1000000 := by rw [ByteArray.size_extract]; omega
            have hke : (ks.extract k1 k2).size ≤ 39 := by rw [ByteArray.size_extract]; omega
            have hP := HPl.out x wr
            rw [hkx] at hP
            have HP := Lib.hid hP
            clear hstep hk hkx hk0 hP hz hcut hk1 hk2
            go_wp2_with fail
            refine HP.out.mono ?_
            rintro e w' ⟨rfl, rfl⟩
            go_wp2_with (go_at_call 32; refine (HLt.out _).mono ?_; rintro e w' ⟨rfl, rfl⟩)
            go_quiet ((go_at_call 32; exact Calls.quiet_of_same (HLt.out _)))
            rename_i nq
            have HBd := Lib.hid (drewN_below w' nq)
            generalize w'.drewN nq = wz at *
            go_wp2_with fail
            go_ret2
            exact ⟨rfl, HBd.out⟩
          · have HN : Hid (nxtAt (numS s) s.size = nxtAt (numS s) q ∧ wr = wr) := ⟨by rw [HR.out.1, hstep, if_neg (by omega)], rfl⟩
            have hk38i : ¬ (k : Int) < 38 := by omega
            have hP := HPl.out x wr
            rw [hkx] at hP
            have HP := Lib.hid hP
            clear hstep hk hkx hk0 hP hz
            go_wp2_with fail
            refine HP.out.mono ?_
            rintro e w' ⟨rfl, rfl⟩
            go_wp2_with (go_at_call 32; refine (HLt.out _).mono ?_; rintro e w' ⟨rfl, rfl⟩)
            go_roundw
            case rel => exact ⟨q, _, by omega, rfl, rfl, HN⟩
            case measure => simp [intOf]
  · rw [if_pos h1] at hr
    subst hr
    have h1b : (c == 0) = false := by rw [beq_eq_false_iff_ne]; exact h1
    clear hkey
    go_enter Tryd.func21, Tryd.ntmps21
    go_wp2_with fail
    refine HC.out.mono ?_
    rintro e w' ⟨rfl, rfl⟩
    go_wp2_with fail
    go_ret2
    exact ⟨rfl, Below.refl _ _⟩

/-- What Name returns. -/
def kName (n : Int) : ByteArray × Int := if n < 0 ∨ 999999 < n then (⟨#[]⟩, 3) else (⟨#[107]⟩ ++ ⟨(Lib.decDigits n.toNat).toArray⟩, 0)

theorem rName_any (n : Int) (w : World) :
    Calls Tryd.prog 23 #[.int .i64 n] w fun e w' => e = .returned (.tuple #[.string (kName n).1, .int .i64 (kName n).2]) ∧ Below w.heap.size w w' := by
  obtain ⟨r, hr⟩ : ∃ r, r = kName n := ⟨_, rfl⟩
  rw [← hr]
  unfold kName at hr
  by_cases h1 : n < 0
  · rw [if_pos (.inl h1)] at hr
    subst hr
    go_enter Tryd.func23, Tryd.ntmps23
    go_wp2_with fail
    go_ret2
    exact ⟨rfl, Below.refl _ _⟩
  by_cases h2 : 999999 < n
  · rw [if_pos (.inr h2)] at hr
    subst hr
    go_enter Tryd.func23, Tryd.ntmps23
    go_wp2_with fail
    go_ret2
    exact ⟨rfl, Below.refl _ _⟩
  rw [if_neg (by omega)] at hr
  obtain ⟨N, rfl⟩ := Int.eq_ofNat_of_zero_le (show 0 ≤ n by omega)
  rw [Int.toNat_natCast] at hr
  have HD := Lib.hid (rDigits_c N w (by omega))
  have hsz : (ByteArray.mk (Lib.decDigits N).toArray).size ≤ 20 := by
    show (Lib.decDigits N).toArray.size ≤ 20
    rw [List.size_toArray, Lib.decDigits_length]
    exact Lib.nDigits_le20 _ (by omega)
  generalize ByteArray.mk (Lib.decDigits N).toArray = ds at *
  subst hr
  go_enter Tryd.func23, Tryd.ntmps23
  go_wp2_with fail
  refine HD.out.mono ?_
  rintro e w' ⟨rfl, rfl⟩
  go_wp2_with fail
  go_ret2
  exact ⟨rfl, Below.refl _ _⟩
end Go.Proofs.YtogkabdampkbjaaDoor
