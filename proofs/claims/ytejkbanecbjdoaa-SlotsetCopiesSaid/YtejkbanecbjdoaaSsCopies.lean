/- SlotsetCopies. -/
import Derived.Test.YtejkbanecbjdoaaSsKnown
namespace Go.Proofs.Ytejkbanecbjdoaa
open Go Go.RowKit

attribute [local go_sem] Oper.semAt_some

set_option maxHeartbeats 4000000 in
set_option maxRecDepth 100000 in
theorem copies_any (size : Nat) (hsz : size < 256) (p : Option Addr) (len c : Nat) (xs : List Nat) (hlen : xs.length = len) (hcap : len ≤ c) (hc63 : c ≤ 9223372036854775807) (p2 : Option Addr) (len2 c2 : Nat) (ys : List Nat) (hlen2 : ys.length = len2) (hcap2 : len2 ≤ c2) (hc632 : c2 ≤ 9223372036854775807) (W : World) (hR : RdU W p xs) (hR2 : RdU W p2 ys) :
    Calls Try.prog 10 #[.int .u8 (size : Nat), .slice p len c, .slice p2 len2 c2] W fun e w' => e = .returned (.bool true) ∧ Below W.heap.size W w' := by
  have hw := works8_any W
  by_cases hl : 100 < len
  · have h200 : (100 : Int) < (len : Int) := by omega
    go_enter Try.func10, Try.ntmps10
    go_wp2_with fail
    refine hw.mono ?_
    rintro e W1 ⟨rfl, hb⟩
    go_wp2_with fail
    go_ret
    exact ⟨rfl, hb⟩
  have h200 : ¬ (100 : Int) < (len : Int) := by omega
  by_cases hl2 : 40 < len2
  · have h2002 : (40 : Int) < (len2 : Int) := by omega
    go_enter Try.func10, Try.ntmps10
    go_wp2_with fail
    refine hw.mono ?_
    rintro e W1 ⟨rfl, hb⟩
    go_wp2_with fail
    go_ret
    exact ⟨rfl, hb⟩
  have h2002 : ¬ (40 : Int) < (len2 : Int) := by omega
  obtain ⟨n, hn⟩ : ∃ n, n = 1 + size % 34 := ⟨_, rfl⟩
  have hn1 : 1 ≤ n := by omega
  have hn34 : n ≤ 34 := by omega
  have hfill := filled_any size hsz p len c xs hlen (by omega) W hR
  rw [← hn] at hfill
  have HR2 := Lib.hid hR2
  have HL2 := Lib.hid hlen2
  clear hn hlen hcap hc63 hR hsz hlen2 hcap2 hc632 hR2 hw
  generalize fillF n xs = F at *
  go_enter Try.func10, Try.ntmps10
  go_wp2_with fail
  refine hfill.mono ?_
  rintro e W1 ⟨rfl, hS, hB, hb⟩
  have HS := Lib.hid hS
  have HA := Lib.hid hB
  have HB := Lib.hid hb
  have HLT := Lib.hid hB.lt
  clear hS hB hb hfill hl h200 hl2
  go_wp2_with fail
  refine (copyS HS.out).mono ?_
  rintro e W2 ⟨rfl, hC, hb2, -⟩
  have HC := Lib.hid hC
  have HB2 := Lib.hid hb2
  clear hC hb2
  go_wp2_with fail
  refine (sizeS HC.out).mono ?_
  rintro e W3 ⟨rfl, hw⟩
  obtain rfl : W2 = W3 := hw.symm
  clear hw
  go_wp2_with fail
  go_loopw [10] (fun i wr => ∃ k : Nat, k ≤ len2 ∧ i = .int .i64 (k : Nat) ∧ Hid (∃ g, SetAt wr W1.heap.size n g ∧ Below W1.heap.size W1 wr)) (fun i _ => len2 - (intOf i).toNat)
  case atStart => exact ⟨0, Nat.zero_le _, rfl, Lib.hid ⟨F, HC.out, HB2.out⟩⟩
  case round =>
    obtain ⟨k, hk, rfl, HI⟩ := hrel
    by_cases hlt : k < len2
    · obtain ⟨g, hSg, hbg⟩ := HI.out
      obtain ⟨x, hx⟩ : ∃ x, ys[k]? = some x := ⟨_, List.getElem?_eq_getElem (by rw [HL2.out]; exact hlt)⟩
      obtain ⟨hx256, g0, o0, rfl, hg0, hc0⟩ := HR2.out k x hx
      have hcell := ((HB.out.trans (hbg.mono HB.out.size)).cell (p := ⟨g0, o0 + k, none⟩) hg0).trans hc0
      obtain ⟨z, hz⟩ : ∃ z, z = x % n := ⟨_, rfl⟩
      have hzn : z < n := by rw [hz]; exact Nat.mod_lt _ (by omega)
      have hzE : (x : Int) % (n : Int) = (z : Int) := by rw [hz, Int.natCast_emod]
      have hzI : Int.tmod (x : Int) (n : Int) = (z : Int) := by rw [Int.tmod_eq_emod_of_nonneg (by omega)]; exact hzE
      have hx0 : (0 : Int) ≤ (x : Int) := by omega
      have hx1 : (x : Int) < 256 := by omega
      have h0 : (0 : Int) ≤ (k : Int) := by omega
      have hk1 : (k : Int) < (len2 : Int) := by omega
      have hne : ¬ (n : Int) = 0 := by omega
      have hhas := hasS hSg z hzn
      have HSG := Lib.hid hSg
      have HBG := Lib.hid hbg
      clear hz hx hc0 hSg hbg
      cases hgz : g z with
      | true =>
        rw [hgz] at hhas
        clear hgz
        go_wp2_with fail
        refine hhas.mono ?_
        rintro e W4 ⟨rfl, m, rfl⟩
        have hS4 := HSG.out.below (Below.drewN' m (Below.refl _ _))
        have hB4 := Below.drewN' m HBG.out
        have hrem := removeS hS4 z hzn
        have HB4 := Lib.hid hB4
        clear hS4 hB4 hhas
        go_wp2_with fail
        refine hrem.mono ?_
        rintro e W5 ⟨rfl, hs5, ho5⟩
        have HN : Hid (∃ g, SetAt W5 W1.heap.size n g ∧ Below W1.heap.size W1 W5) := Lib.hid ⟨_, hs5, HB4.out.trans (ho5.below (Nat.le_refl _) HB4.out.size)⟩
        clear hs5 ho5 hrem
        go_wp2_with fail
        go_roundw
        case rel => exact ⟨k + 1, by omega, by simp, HN⟩
        case measure => simp [intOf]; omega
      | false =>
        rw [hgz] at hhas
        clear hgz
        go_wp2_with fail
        refine hhas.mono ?_
        rintro e W4 ⟨rfl, m, rfl⟩
        have hS4 := HSG.out.below (Below.drewN' m (Below.refl _ _))
        have hB4 := Below.drewN' m HBG.out
        have hrem := addS hS4 z hzn
        have HB4 := Lib.hid hB4
        clear hS4 hB4 hhas
        go_wp2_with fail
        refine hrem.mono ?_
        rintro e W5 ⟨rfl, hs5, ho5⟩
        have HN : Hid (∃ g, SetAt W5 W1.heap.size n g ∧ Below W1.heap.size W1 W5) := Lib.hid ⟨_, hs5, HB4.out.trans (ho5.below (Nat.le_refl _) HB4.out.size)⟩
        clear hs5 ho5 hrem
        go_wp2_with fail
        go_roundw
        case rel => exact ⟨k + 1, by omega, by simp, HN⟩
        case measure => simp [intOf]; omega
    · obtain rfl : k = len2 := by omega
      obtain ⟨g, -, hbg⟩ := HI.out
      have HSx := Lib.hid (HS.out.below hbg)
      have HAx := Lib.hid (HA.out.below hbg)
      have HBx := Lib.hid (HB.out.trans (hbg.mono HB.out.size))
      clear hbg HI HS HA HB HC HB2
      go_wp2_with fail
      refine (slots_any _ _ F hn34 _ HAx.out).mono ?_
      rintro e Y1 ⟨⟨p3, c3, rfl, hrd, -⟩, hb2⟩
      have HRD := Lib.hid hrd
      have HS1 := Lib.hid (HSx.out.below hb2)
      have HA1 := Lib.hid (HAx.out.below hb2)
      have HB1 := Lib.hid (HBx.out.trans (hb2.mono HBx.out.size))
      clear hrd hb2 HSx HAx HBx
      go_wp2_with fail
      refine (sameS _ HS1.out HRD.out rfl).mono ?_
      rintro e Y2 ⟨rfl, hb2⟩
      have HSx := Lib.hid (HS1.out.below hb2)
      have HAx := Lib.hid (HA1.out.below hb2)
      have HBx := Lib.hid (HB1.out.trans (hb2.mono HB1.out.size))
      clear HRD hb2 HS1 HA1 HB1
      go_wp2_with fail
      refine (copyS HSx.out).mono ?_
      rintro e Y3 ⟨rfl, hD, hb2, -⟩
      have hlts := HSx.out.lt
      have HD := Lib.hid hD
      have HS1 := Lib.hid (HSx.out.below hb2)
      have HA1 := Lib.hid (HAx.out.below hb2)
      have HB1 := Lib.hid (HBx.out.trans (hb2.mono HBx.out.size))
      clear hD hb2 HSx HAx HBx
      go_wp2_with fail
      refine (minusS HS1.out HS1.out).mono ?_
      rintro e Y4 ⟨rfl, hs, ho⟩
      have HSx := Lib.hid (hs.congr (g := fun _ => false) (fun j _ => by cases F j <;> rfl))
      have HDx := Lib.hid (HD.out.other ho (by omega))
      have HAx := Lib.hid (HA1.out.other ho (by omega))
      have HBx := Lib.hid (HB1.out.trans (ho.below (Nat.le_refl _) HB1.out.size))
      clear hs ho HD HS1 HA1 HB1
      go_wp2_with fail
      refine (slots_any _ _ F hn34 _ HAx.out).mono ?_
      rintro e Y5 ⟨⟨p4, c4, rfl, hrd, -⟩, hb2⟩
      have HRD := Lib.hid hrd
      have HS1 := Lib.hid (HSx.out.below hb2)
      have HD1 := Lib.hid (HDx.out.below hb2)
      have HB1 := Lib.hid (HBx.out.trans (hb2.mono HBx.out.size))
      clear hrd hb2 HSx HAx HBx HDx
      go_wp2_with fail
      refine (sameS _ HD1.out HRD.out rfl).mono ?_
      rintro e Y6 ⟨rfl, hb2⟩
      have HSx := Lib.hid (HS1.out.below hb2)
      have HBx := Lib.hid (HB1.out.trans (hb2.mono HB1.out.size))
      clear HRD hb2 HS1 HD1 HB1
      go_wp2_with fail
      have hlen := lenS HSx.out
      rw [show els n (fun _ => false) = [] from List.filter_eq_nil_iff.2 (by simp)] at hlen
      replace hlen : Calls Try.prog 36 #[.pointer (some ⟨W.heap.size, 0, none⟩)] Y6 fun e w' => e = .returned (.int .i64 0) ∧ w' = Y6 := hlen
      refine hlen.mono ?_
      rintro e Y7 ⟨rfl, hw⟩
      obtain rfl : Y6 = Y7 := hw.symm
      clear hlen hw
      go_wp2_with fail
      refine (works8_any _).mono ?_
      rintro e Y8 ⟨rfl, hb2⟩
      have HBy := Lib.hid (HBx.out.trans (hb2.mono HBx.out.size))
      clear hb2 HBx HSx
      go_wp2_with fail
      go_ret
      exact ⟨rfl, HBy.out⟩
end Go.Proofs.Ytejkbanecbjdoaa
