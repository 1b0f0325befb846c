/- SlotsetPlays. -/
import Derived.Test.YtejkbanecbjdoaaSsSteps
import Derived.Deep.RegionHeld3
import Derived.Deep.CutBlock
import Derived.Deep.CutRange
namespace Go.Proofs.Ytejkbanecbjdoaa
open Go Go.RowKit

attribute [local go_sem] Oper.semAt_some

set_option maxHeartbeats 8000000 in
set_option maxRecDepth 100000 in
theorem plays_any (size other : Int) (a : Option Addr) (len cap : Nat) (xs : List Stp) (hlen : xs.length = len) (hcap : len ≤ cap) (hc63 : cap ≤ 9223372036854775807) (fr : Int) (w : World) (hX : StepsAt8 w w.heap.size a xs) :
    Calls Try.prog 3 #[.int .i64 size, .int .i64 other, .slice a len cap, .int .i64 fr] w fun e w' => e = .returned (.bool true) ∧ Below w.heap.size w w' := by
  have hwk := works8_any w
  by_cases h100 : 100 < len
  · have hd : (100 : Int) < (len : Int) := by omega
    clear hX hlen
    go_enter Try.func3, Try.ntmps3
    go_wp2_with (go_at_call 12; refine hwk.mono ?_; rintro e w1 ⟨rfl, hb⟩)
    go_ret
    exact ⟨rfl, hb⟩
  have hd : ¬ (100 : Int) < (len : Int) := by omega
  obtain ⟨e0, hnew⟩ := new2 size w
  have HNEW := Lib.hid hnew
  have HX := Lib.hid hX
  have HLEN := Lib.hid hlen
  have HWK := Lib.hid hwk
  have hl100 : len ≤ 100 := by omega
  clear hX hlen h100 hnew hwk
  go_enter Try.func3, Try.ntmps3
  go_wp2_with fail
  go_loopw [9] (fun q wr => ∃ k : Nat, k ≤ len ∧ q = .int .i64 (k : Nat) ∧ wr = w ∧ Hid (∀ (j : Nat) x, j < k → xs[j]? = some x → x.n ≤ 40)) (fun q _ => len - (intOf q).toNat)
  case atStart => exact ⟨0, Nat.zero_le _, rfl, rfl, Lib.hid (fun j x hj => absurd hj (Nat.not_lt_zero _))⟩
  case round =>
    obtain ⟨k, hk, rfl, hw, HI⟩ := hrel
    obtain rfl : w = wr := hw.symm
    clear hw
    by_cases hlt : k < len
    · obtain ⟨x, hx⟩ : ∃ x, xs[k]? = some x := ⟨_, List.getElem?_eq_getElem (by rw [HLEN.out]; exact hlt)⟩
      obtain ⟨⟨g, o, rfl, hg, e0', e1', e2'⟩, hnc, hcc, -⟩ := HX.out k x hx
      have hk0 : (0 : Int) ≤ (k : Int) := by omega
      have hk1 : (k : Int) < (len : Int) := by omega
      have HN : Hid (x.n ≤ 40 → ∀ (j : Nat) y, j < k + 1 → xs[j]? = some y → y.n ≤ 40) := Lib.hid fun h40 j y hj hy => by
        by_cases e : j = k
        · subst e; rw [hx] at hy; injection hy with hy; subst hy; exact h40
        · exact HI.out j y (by omega) hy
      obtain ⟨doo, ix, pL, nL, cL⟩ := x
      dsimp only at e0' e1' e2' hnc hcc HN
      clear hx e0' e1'
      by_cases h40 : 40 < nL
      · have hd4 : (40 : Int) < (nL : Int) := by omega
        go_wp2_with fail
        refine HWK.out.mono ?_
        rintro e w1 ⟨rfl, hb⟩
        have HBW := Lib.hid hb
        clear hb
        go_wp2_with fail
        go_ret
        exact ⟨rfl, HBW.out⟩
      · have hd4 : ¬ (40 : Int) < (nL : Int) := by omega
        have HN2 := Lib.hid (HN.out (by omega))
        clear HN
        go_wp2_with fail
        go_roundw
        case rel => exact ⟨k + 1, by omega, by simp, by first | rfl | trivial, HN2⟩
        case measure => simp [intOf]; omega
    · obtain rfl : len = k := by omega
      have H40 := HI
      clear HI HWK
      go_wp2_with fail
      refine HNEW.out.mono ?_
      rintro e w1 ⟨v0, rfl, HV0⟩
      have hn2 := HV0.out.2
      go_wp2_with fail
      refine hn2.mono ?_
      rintro e w2 ⟨r0, rfl, HR0⟩
      have hqv : ∀ V : World, (binOp .eql 27 (.pointer v0) (.pointer none)).run Try.prog V = .ok (.bool v0.isNone) V := fun V => run_eql_ptr_none2 (P := Try.prog) V Try.underlying27 (by kernel_rfl : (Try.prog.info? 50).isSome = true) v0
      have hqr : ∀ V : World, (binOp .eql 31 (.pointer r0) (.pointer none)).run Try.prog V = .ok (.bool r0.isNone) V := fun V => run_eql_ptr_none2 (P := Try.prog) V Try.underlying31 (by kernel_rfl : (Try.prog.info? 68).isSome = true) r0
      rw [HR0.out.1] at hqr
      have hee : ((e0 : Int) != (e0 : Int)) = false := by simp
      have HO : Hid (Pair w2 v0 r0 (fun k => w.heap.size ≤ k) ∧ Below w.heap.size w w2) := Lib.hid HR0.out.2
      clear hn2 HR0 HV0
      generalize v0.isNone = vn at *
      have hbb : (vn != vn) = false := by simp
      go_wp2_with fail
      go_loopw [10, 12, 14] (fun sa sb si wr => ∃ (i : Nat) (v r : Option Addr), i ≤ len ∧ sa = .pointer v ∧ sb = .pointer r ∧ si = .int .i64 (i : Nat) ∧ Hid (Pair wr v r (fun k => w.heap.size ≤ k) ∧ Below w.heap.size w wr)) (fun _ _ si _ => len - (intOf si).toNat)
      case atStart => exact ⟨0, _, _, Nat.zero_le _, rfl, rfl, rfl, HO⟩
      case round =>
        obtain ⟨i, v, r, hi, rfl, rfl, rfl, HT⟩ := hrel
        clear HO
        obtain ⟨A, rfl⟩ : ∃ A, A = wr := ⟨_, rfl⟩
        by_cases hil : i < len
        · obtain ⟨x, hx⟩ : ∃ x, xs[i]? = some x := ⟨_, List.getElem?_eq_getElem (by rw [HLEN.out]; exact hil)⟩
          have hn40 := H40.out i x hil hx
          obtain ⟨⟨g, o, rfl, hg, e0', e1', e2'⟩, hnc, hcc, hel⟩ := HX.out i x hx
          obtain ⟨doo, ix, pL, nL, cL⟩ := x
          dsimp only at e0' e1' e2' hnc hcc hel hn40
          have hbw := HT.out.2
          have c0 := (hbw.cell (p := ⟨g, o + i * 3, none⟩) hg).trans e0'
          have c1 := (hbw.cell (p := ⟨g, o + i * 3 + 1, none⟩) hg).trans e1'
          have c2 := (hbw.cell (p := ⟨g, o + i * 3 + 2, none⟩) hg).trans e2'
          obtain ⟨X1, hX1⟩ : ∃ X1, X1 = A.alloc (.cells #[.int .i64 doo, .int .i64 ix, .slice pL nL cL] 26) := ⟨_, rfl⟩
          have hbX : Below A.heap.size A X1 := by rw [hX1]; exact (Below.refl _ _).alloc (Nat.le_refl _) _
          have hX1s : X1.heap.size = A.heap.size + 1 := by rw [hX1]; simp
          have hXb : X1.heap[A.heap.size]? = some (.cells #[.int .i64 doo, .int .i64 ix, .slice pL nL cL] 26 (0, 0)) := by rw [hX1]; exact heap_alloc_new _ _
          have hwwr := hbw.size
          have hbwX : Below w.heap.size w X1 := hbw.trans (hbX.mono hwwr)
          have HPV : Hid (Pair X1 v r (fun k => w.heap.size ≤ k ∧ k < A.heap.size)) := Lib.hid ((HT.out.1.weak (fun k h1 h2 => ⟨h2, h1⟩)).below hbX)
          have HCX : Hid (∀ V : World, V.heap[A.heap.size]? = X1.heap[A.heap.size]? → V.cell? ⟨A.heap.size, 0, none⟩ = some (.int .i64 doo) ∧ V.cell? ⟨A.heap.size, 1, none⟩ = some (.int .i64 ix) ∧ V.cell? ⟨A.heap.size, 2, none⟩ = some (.slice pL nL cL)) := Lib.hid fun V hV => by
            rw [hXb] at hV
            exact ⟨by simp [World.cell?, hV], by simp [World.cell?, hV], by simp [World.cell?, hV]⟩
          have HEL : Hid (∀ k, k < nL → ∃ g o z, pL = some ⟨g, o, none⟩ ∧ g < w.heap.size ∧ w.cell? ⟨g, o + k, none⟩ = some (.int .i64 z)) := Lib.hid hel
          have HBWX := Lib.hid hbwX
          have HSZ := Lib.hid (And.intro hX1s hwwr)
          obtain ⟨e1, hnew1⟩ := new2 other X1
          have HN1 := Lib.hid hnew1
          have hi0 : (0 : Int) ≤ (i : Int) := by omega
          have hi1 : (i : Int) < (len : Int) := by omega
          clear e0' e1' e2' hx hbw hbX hX1s hXb hbwX hwwr HT hel hnew1
          go_wp2_with fail
          rw [← hX1]
          clear hX1
          refine HN1.out.mono ?_
          rintro e Y1 ⟨t, rfl, HV1⟩
          have hn2 := HV1.out.2
          clear HV1
          go_wp2_with fail
          refine hn2.mono ?_
          rintro e Y2 ⟨u, rfl, HR1⟩
          have HIN : Hid (Pair Y2 t u (fun k => X1.heap.size ≤ k) ∧ Below X1.heap.size X1 Y2) := Lib.hid HR1.out.2
          clear hn2 HR1
          go_wp2_with fail
          go_loopw [20] (fun q V => ∃ k : Nat, k ≤ nL ∧ q = .int .i64 (k : Nat) ∧ Hid (Pair V t u (fun k => X1.heap.size ≤ k) ∧ Below X1.heap.size X1 V)) (fun q _ => nL - (intOf q).toNat)
          case atStart => exact ⟨0, Nat.zero_le _, rfl, HIN⟩
          case round =>
            obtain ⟨k, hk, rfl, HJ⟩ := hrel
            clear HIN
            have hxb : wr.heap[A.heap.size]? = X1.heap[A.heap.size]? := HJ.out.2.block _ (by have := HSZ.out.1; omega)
            obtain ⟨f0, f1, f2⟩ := HCX.out wr hxb
            by_cases hkn : k < nL
            · as_aux_lemma =>
              obtain ⟨gz, oz, z, rfl, hgz, hcz⟩ := HEL.out k hkn
              have hbV : Below w.heap.size w wr := HBWX.out.trans (HJ.out.2.mono HBWX.out.size)
              have cz := (hbV.cell (p := ⟨gz, oz + k, none⟩) hgz).trans hcz
              obtain ⟨ea, hA⟩ := add2 (HJ.out.1.below (W' := wr.drew) Below.drewSelf) z
              have HA := Lib.hid hA
              have HCZ : Hid (∀ X : World, Hid (Kc (fun k => X1.heap.size ≤ k) wr X) → X.cell? ⟨A.heap.size, 2, none⟩ = some (.slice (some ⟨gz, oz, none⟩) nL cL) ∧ X.cell? ⟨gz, oz + k, none⟩ = some (.int .i64 z)) := Lib.hid fun X hX => by
                have hs := HSZ.out
                have hs2 := HJ.out.2.size
                have h1 := hX.out.block A.heap.size (by omega) (by omega)
                have h2 := hX.out.block gz (by omega) (by omega)
                refine ⟨(HCX.out X (h1.trans hxb)).2.2, ?_⟩
                unfold World.cell? at cz ⊢
                rw [h2]; exact cz
              have hK0 : Hid (Kc (fun k => X1.heap.size ≤ k) wr wr) := Lib.hid (Kc.refl _ _)
              have hK1 : Hid (Kc (fun k => X1.heap.size ≤ k) wr wr.drew) := Lib.hid (Kc.of_below Below.drewSelf)
              have hk0 : (0 : Int) ≤ (k : Int) := by omega
              have hk1 : (k : Int) < (nL : Int) := by omega
              have hk40 : (nL : Int) ≤ 40 := by omega
              clear hcz hbV hA hgz
              go_wp2_with fail
              go_region_held3 (fun X => X.cell? ⟨A.heap.size, 2, none⟩ = some (.slice (some ⟨gz, oz, none⟩) nL cL) ∧ X.cell? ⟨gz, oz + k, none⟩ = some (.int .i64 z))
                (exact HCZ.out _ (by assumption))
                (first
                  | (go_at_call 16; refine HKA.out.2.mono ?_; rintro e WB ⟨rfl, HPB⟩; have hKB : Hid (Kc (fun k => X1.heap.size ≤ k) wr WB) := Lib.hid (hK1.out.trans HPB.out.2))
                  | (go_at_call 15; refine HA.out.mono ?_; rintro e WA ⟨rfl, HKA⟩; have hKA : Hid (Kc (fun k => X1.heap.size ≤ k) wr WA) := Lib.hid (hK1.out.trans HKA.out.1)))
              have hqq : ((ea : Int) != (ea : Int)) = false := by simp
              have HN : Hid (Pair WB t u (fun k => X1.heap.size ≤ k) ∧ Below X1.heap.size X1 WB) := Lib.hid ⟨HPB.out.1, HJ.out.2.trans (hKB.out.below (fun k h => h) HJ.out.2.size)⟩
              go_wp2_with fail
              go_roundw
              case rel => exact ⟨k + 1, by omega, by simp, HN⟩
              case measure => simp [intOf]; omega
            · obtain rfl : nL = k := by omega
              have hPW := HPV.out.below HJ.out.2
              have hDJ : ∀ k, (w.heap.size ≤ k ∧ k < A.heap.size) → ¬ X1.heap.size ≤ k := fun k hk h2 => by have := HSZ.out.1; omega
              have hDJ2 : ∀ k, X1.heap.size ≤ k → ¬ (w.heap.size ≤ k ∧ k < A.heap.size) := fun k h2 hk => by have := HSZ.out.1; omega
              have hBW : Below w.heap.size w wr := HBWX.out.trans (HJ.out.2.mono HBWX.out.size)
              have HPW := Lib.hid hPW
              have HBW := Lib.hid hBW
              have hltx : A.heap.size < wr.heap.size := by have := HSZ.out.1; have := HJ.out.2.size; omega
              have HFIN : Hid (∀ Z : World, Kc (fun k => w.heap.size ≤ k ∧ k < A.heap.size) wr Z → Pair Z v r (fun k => w.heap.size ≤ k ∧ k < A.heap.size) → Hid (Pair Z v r (fun k => w.heap.size ≤ k)) ∧ Hid (Pair Z t u (fun k => X1.heap.size ≤ k)) ∧ Hid (Below w.heap.size w Z) ∧ Hid (Z.heap[A.heap.size]? = X1.heap[A.heap.size]?)) := Lib.hid fun Z hK hP =>
                ⟨Lib.hid (hP.weak (fun k _ hk => hk.1)), Lib.hid (HJ.out.1.keep hK hDJ2), Lib.hid (hBW.trans (hK.below (fun k hk => hk.1) hBW.size)), Lib.hid ((hK.block _ hltx (fun hk => by omega)).trans hxb)⟩
              have HCI : Hid (∀ X : World, Hid (Kc (fun k => w.heap.size ≤ k ∧ k < A.heap.size) wr X) → X.cell? ⟨A.heap.size, 1, none⟩ = some (.int .i64 ix)) := Lib.hid fun X hX => (HCX.out X ((hX.out.block _ hltx (fun hk => by omega)).trans hxb)).2.1
              have hK0 : Hid (Kc (fun k => w.heap.size ≤ k ∧ k < A.heap.size) wr wr) := Lib.hid (Kc.refl _ _)
              have hK1 : Hid (Kc (fun k => w.heap.size ≤ k ∧ k < A.heap.size) wr wr.drew) := Lib.hid (Kc.of_below Below.drewSelf)
              have HXB := Lib.hid hxb
              have HDJ := Lib.hid hDJ
              have HLX := Lib.hid hltx
              clear hPW hDJ hDJ2 hBW hltx hxb
              go_upto_block 6 with fail
              go_cut [10, 12] from 67 to 228 (fun sa sb wx => ∃ v9 r9, sa = .pointer v9 ∧ sb = .pointer r9 ∧ Hid (Pair wx v9 r9 (fun k => w.heap.size ≤ k) ∧ Pair wx t u (fun k => X1.heap.size ≤ k) ∧ Below w.heap.size w wx ∧ wx.heap[A.heap.size]? = X1.heap[A.heap.size]?))
              case first =>
                have hdo : doo = 0 ∨ doo = 1 ∨ doo = 2 ∨ doo = 3 ∨ doo = 4 ∨ (doo ≠ 0 ∧ doo ≠ 1 ∧ doo ≠ 2 ∧ doo ≠ 3 ∧ doo ≠ 4) := by omega
                rcases hdo with rfl | rfl | rfl | rfl | rfl | hdo
                · as_aux_lemma =>
                    obtain ⟨ea, hA⟩ := add2 (HPW.out.below (W' := wr.drew) Below.drewSelf) ix
                    have HA := Lib.hid hA
                    clear hA
                    go_wp2_with fail
                    go_region_held3 (fun X => X.cell? ⟨A.heap.size, 1, none⟩ = some (.int .i64 ix))
                      (exact HCI.out _ (by assumption))
                      (first
                        | (go_at_call 16; refine HKA.out.2.mono ?_; rintro e Z ⟨rfl, HPB⟩; have hKB : Hid (Kc (fun k => w.heap.size ≤ k ∧ k < A.heap.size) wr Z) := Lib.hid (hK1.out.trans HPB.out.2))
                        | (go_at_call 15; refine HA.out.mono ?_; rintro e WA ⟨rfl, HKA⟩; have hKA : Hid (Kc (fun k => w.heap.size ≤ k ∧ k < A.heap.size) wr WA) := Lib.hid (hK1.out.trans HKA.out.1)))
                    have hqq : ((ea : Int) != (ea : Int)) = false := by simp
                    obtain ⟨HPZ, HTZ, HBZ, HXZ⟩ := HFIN.out Z hKB.out HPB.out.1
                    clear HPB hKB
                    go_wp2_with fail
                    go_meet
                    case rel => exact ⟨_, _, rfl, rfl, Lib.hid ⟨HPZ.out, HTZ.out, HBZ.out, HXZ.out⟩⟩
                · as_aux_lemma =>
                    obtain ⟨ea, hA⟩ := remove2 (HPW.out.below (W' := wr.drew) Below.drewSelf) ix
                    have HA := Lib.hid hA
                    clear hA
                    go_wp2_with fail
                    go_region_held3 (fun X => X.cell? ⟨A.heap.size, 1, none⟩ = some (.int .i64 ix))
                      (exact HCI.out _ (by assumption))
                      (first
                        | (go_at_call 18; refine HKA.out.2.mono ?_; rintro e Z ⟨rfl, HPB⟩; have hKB : Hid (Kc (fun k => w.heap.size ≤ k ∧ k < A.heap.size) wr Z) := Lib.hid (hK1.out.trans HPB.out.2))
                        | (go_at_call 17; refine HA.out.mono ?_; rintro e WA ⟨rfl, HKA⟩; have hKA : Hid (Kc (fun k => w.heap.size ≤ k ∧ k < A.heap.size) wr WA) := Lib.hid (hK1.out.trans HKA.out.1)))
                    have hqq : ((ea : Int) != (ea : Int)) = false := by simp
                    obtain ⟨HPZ, HTZ, HBZ, HXZ⟩ := HFIN.out Z hKB.out HPB.out.1
                    clear HPB hKB
                    go_wp2_with fail
                    go_meet
                    case rel => exact ⟨_, _, rfl, rfl, Lib.hid ⟨HPZ.out, HTZ.out, HBZ.out, HXZ.out⟩⟩
                · as_aux_lemma =>
                    obtain ⟨ea, hA⟩ := union2 HPW.out HJ.out.1 HDJ.out
                    have HA := Lib.hid hA
                    clear hA
                    go_wp2_with fail
                    refine HA.out.mono ?_
                    rintro e WA ⟨rfl, HKA⟩
                    go_wp2_with fail
                    refine HKA.out.2.mono ?_
                    rintro e Z ⟨rfl, HPB⟩
                    have hqq : ((ea : Int) != (ea : Int)) = false := by simp
                    obtain ⟨HPZ, HTZ, HBZ, HXZ⟩ := HFIN.out Z HPB.out.2 HPB.out.1
                    clear HPB HKA
                    go_wp2_with fail
                    go_meet
                    case rel => exact ⟨_, _, rfl, rfl, Lib.hid ⟨HPZ.out, HTZ.out, HBZ.out, HXZ.out⟩⟩
                · as_aux_lemma =>
                    obtain ⟨ea, hA⟩ := minus2 HPW.out HJ.out.1 HDJ.out
                    have HA := Lib.hid hA
                    clear hA
                    go_wp2_with fail
                    refine HA.out.mono ?_
                    rintro e WA ⟨rfl, HKA⟩
                    go_wp2_with fail
                    refine HKA.out.2.mono ?_
                    rintro e Z ⟨rfl, HPB⟩
                    have hqq : ((ea : Int) != (ea : Int)) = false := by simp
                    obtain ⟨HPZ, HTZ, HBZ, HXZ⟩ := HFIN.out Z HPB.out.2 HPB.out.1
                    clear HPB HKA
                    go_wp2_with fail
                    go_meet
                    case rel => exact ⟨_, _, rfl, rfl, Lib.hid ⟨HPZ.out, HTZ.out, HBZ.out, HXZ.out⟩⟩
                · as_aux_lemma =>
                    obtain ⟨v9, hA⟩ := copy2 HPW.out
                    have HA := Lib.hid hA
                    clear hA
                    go_wp2_with fail
                    refine HA.out.mono ?_
                    rintro e WA ⟨rfl, HKA⟩
                    go_wp2_with fail
                    refine HKA.out.2.mono ?_
                    rintro e Z ⟨r9, rfl, HPB⟩
                    have HPZ : Hid (Pair Z v9 r9 (fun k => w.heap.size ≤ k)) := Lib.hid (HPB.out.1.weak (fun k _ hk => Nat.le_trans HBW.out.size hk))
                    have HTZ : Hid (Pair Z t u (fun k => X1.heap.size ≤ k)) := Lib.hid (HJ.out.1.below HPB.out.2)
                    have HBZ : Hid (Below w.heap.size w Z) := Lib.hid (HBW.out.trans (HPB.out.2.mono HBW.out.size))
                    have HXZ : Hid (Z.heap[A.heap.size]? = X1.heap[A.heap.size]?) := Lib.hid ((HPB.out.2.block _ HLX.out).trans HXB.out)
                    clear HPB HKA
                    go_wp2_with fail
                    go_meet
                    case rel => exact ⟨_, _, rfl, rfl, Lib.hid ⟨HPZ.out, HTZ.out, HBZ.out, HXZ.out⟩⟩
                · as_aux_lemma =>
                    have hd0 : (doo == (0 : Int)) = false := by simp; omega
                    have hd1 : (doo == (1 : Int)) = false := by simp; omega
                    have hd2 : (doo == (2 : Int)) = false := by simp; omega
                    have hd3 : (doo == (3 : Int)) = false := by simp; omega
                    have hd4 : (doo == (4 : Int)) = false := by simp; omega
                    obtain ⟨HPZ, HTZ, HBZ, HXZ⟩ := HFIN.out wr hK0.out HPW.out
                    clear hdo
                    go_wp2_with fail
                    obtain ⟨Z, rfl⟩ : ∃ Z, Z = wr := ⟨_, rfl⟩
                    go_meet
                    case rel => exact ⟨_, _, rfl, rfl, Lib.hid ⟨HPZ.out, HTZ.out, HBZ.out, HXZ.out⟩⟩
              case rest =>
                as_aux_lemma =>
                obtain ⟨v9, r9, rfl, rfl, HZ⟩ := hcut
                obtain ⟨Z, rfl⟩ : ∃ Z, Z = wc := ⟨_, rfl⟩
                have HPZ := Lib.hid HZ.out.1
                have HTZ := Lib.hid HZ.out.2.1
                have HBZ := Lib.hid HZ.out.2.2.1
                have HXZ := Lib.hid HZ.out.2.2.2
                clear HFIN HCI HPW HBW hK0 hK1 HZ
                go_wp2_with fail
                obtain ⟨hv, sz, nv, nb, lv, lb, L, l, hsh⟩ := HPZ.out.shows ix fr
                obtain ⟨hv2, sz2, nv2, nb2, lv2, lb2, L2, l2, hsh2⟩ := HTZ.out.shows ix fr
                have HS1 := Lib.hid hsh
                have HS2 := Lib.hid hsh2
                have HCI2 : Hid (∀ X : World, Hid (Below Z.heap.size Z X) → X.cell? ⟨A.heap.size, 1, none⟩ = some (.int .i64 ix)) := Lib.hid fun X hX => (HCX.out X ((hX.out.block _ (by have h1 := HXZ.out; by_cases h2 : A.heap.size < Z.heap.size; exact h2; rw [Array.getElem?_eq_none (by omega)] at h1; have h3 := HSZ.out.1; rw [Array.getElem?_eq_getElem (by omega)] at h1; cases h1)).trans HXZ.out)).2.1
                have hZ0 : Hid (Below Z.heap.size Z Z) := Lib.hid (Below.refl _ _)
                clear hsh hsh2
                refine (HS1.out.next _ hZ0).mono ?_
                rintro e Z1 ⟨rfl, hZ1⟩
                clear hZ0
                go_wp2_with fail
                refine (HS1.out.rnext _ hZ1).mono ?_
                rintro e Z2 ⟨rfl, hZ2⟩
                clear hZ1
                go_wp2_with fail
                refine (HS1.out.low _ hZ2).mono ?_
                rintro e Z3 ⟨rfl, hZ3⟩
                clear hZ2
                go_wp2_with fail
                refine (HS1.out.rlow _ hZ3).mono ?_
                rintro e Z4 ⟨rfl, hZ4⟩
                clear hZ3
                have hZ5 : Hid (Below Z.heap.size Z Z4.drew) := Lib.hid (hZ4.out.trans (Below.drewSelf (B := Z4.heap.size) |>.mono hZ4.out.size))
                have hn1 : ((nv : Int) != (nv : Int)) = false := by simp
                have hn2 : ((nb : Bool) != (nb : Bool)) = false := by simp
                have hn3 : ((lv : Int) != (lv : Int)) = false := by simp
                have hn4 : ((lb : Bool) != (lb : Bool)) = false := by simp
                have hn5 : ((hv : Bool) != (hv : Bool)) = false := by simp
                have hn6 : ((sz : Int) != (sz : Int)) = false := by simp
                go_wp2_with fail
                go_region_held3 (fun X => X.cell? ⟨A.heap.size, 1, none⟩ = some (.int .i64 ix))
                  (exact HCI2.out _ (by assumption))
                  (first
                    | (go_at_call 29; refine (HS1.out.has _ (by assumption)).mono ?_; rintro e q1 ⟨rfl, hq1⟩)
                    | (go_at_call 30; refine (HS1.out.rhas _ (by assumption)).mono ?_; rintro e q2 ⟨rfl, hq2⟩)
                    | (go_at_call 31; refine (HS1.out.size _ (by assumption)).mono ?_; rintro e q3 ⟨rfl, hq3⟩)
                    | (go_at_call 32; refine (HS1.out.rsize _ (by assumption)).mono ?_; rintro e q4 ⟨rfl, hq4⟩)
                    | (go_at_call 34; (with_reducible show Calls _ _ #[.pointer r9] _ _); refine (HS1.out.rall _ (by assumption)).mono ?_; rintro e q5 ⟨⟨p5, c5, rfl, hr5⟩, hq5⟩)
                    | (go_at_call 34; (with_reducible show Calls _ _ #[.pointer u] _ _); refine (HS2.out.rall _ (by assumption)).mono ?_; rintro e q6 ⟨⟨p6, c6, rfl, hr6⟩, hq6⟩)
                    | (go_at_call 33; (with_reducible show Calls _ _ #[.pointer v9, .slice p5 L c5] _ _); refine (HS1.out.same _ _ _ (by assumption) (by assumption)).mono ?_; rintro e q7 ⟨rfl, hq7⟩)
                    | (go_at_call 33; (with_reducible show Calls _ _ #[.pointer t, .slice p6 L2 c6] _ _); refine (HS2.out.same _ _ _ (by assumption) (by assumption)).mono ?_; rintro e q8 ⟨rfl, hq8⟩))
                have HNX : Hid (Pair q8 v9 r9 (fun k => w.heap.size ≤ k) ∧ Below w.heap.size w q8) := Lib.hid ⟨HPZ.out.below hq8.out, HBZ.out.trans (hq8.out.mono HBZ.out.size)⟩
                go_wp2_with fail
                go_roundw
                case rel => exact ⟨i + 1, _, _, by omega, rfl, rfl, by simp, HNX⟩
                case measure => simp [intOf]; omega
        · obtain rfl : len = i := by omega
          go_wp2_with fail
          refine (works8_any _).mono ?_
          rintro e w9 ⟨rfl, hb9⟩
          have hb := HT.out.2.trans (hb9.mono HT.out.2.size)
          have HBF := Lib.hid hb
          clear hb9 hb
          go_wp2_with fail
          go_ret
          exact ⟨rfl, HBF.out⟩
end Go.Proofs.Ytejkbanecbjdoaa
