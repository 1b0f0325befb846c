/- SlotsetRefuses. -/
import Derived.Test.YtejkbanecbjdoaaSsKnown
namespace Go.Proofs.Ytejkbanecbjdoaa
open Go Go.RowKit

attribute [local go_sem] Oper.semAt_some

set_option maxHeartbeats 4000000 in
set_option maxRecDepth 100000 in
theorem refuses_any (size : Nat) (hsz : size < 256) (p : Option Addr) (len c : Nat) (xs : List Nat) (hlen : xs.length = len) (hcap : len ≤ c) (hc63 : c ≤ 9223372036854775807) (far : Nat) (hfar : far < 65536) (W : World) (hR : RdU W p xs) :
    Calls Try.prog 8 #[.int .u8 (size : Nat), .slice p len c, .int .u16 (far : Nat)] W fun e w' => e = .returned (.bool true) ∧ Below W.heap.size W w' := by
  by_cases hl : 100 < len
  · have h200 : (100 : Int) < (len : Int) := by omega
    have hw := works8_any W
    go_enter Try.func8, Try.ntmps8
    go_wp2_with fail
    refine hw.mono ?_
    rintro e W1 ⟨rfl, hb⟩
    go_wp2_with fail
    go_ret
    exact ⟨rfl, hb⟩
  have h200 : ¬ (100 : Int) < (len : Int) := by omega
  obtain ⟨n, hn⟩ : ∃ n, n = 1 + size % 34 := ⟨_, rfl⟩
  have hn1 : 1 ≤ n := by omega
  have hn34 : n ≤ 34 := by omega
  have hfill := filled_any size hsz p len c xs hlen (by omega) W hR
  rw [← hn] at hfill
  obtain ⟨m, hm⟩ : ∃ m, m = 1 + (n + far) % 34 := ⟨_, rfl⟩
  have hm1 : 1 ≤ m := by omega
  have hm34 : m ≤ 34 := by omega
  have hmI : 1 + ((n : Int) + (far : Int)) % 34 = (m : Int) := by omega
  have hf0 : (0 : Int) ≤ (far : Int) := by omega
  have hf1 : (far : Int) < 65536 := by omega
  clear hn hlen hcap hc63 hR hsz hm
  generalize fillF n xs = F at *
  go_enter Try.func8, Try.ntmps8
  go_wp2_with fail
  refine hfill.mono ?_
  rintro e W1 ⟨rfl, hS, hB, hb⟩
  have HS := Lib.hid hS
  have HBA := Lib.hid hB
  have HB := Lib.hid hb
  have HLT := Lib.hid hB.lt
  clear hS hB hb hfill hl h200
  go_wp2_with fail
  refine (setS m hm1 hm34 none 0 0 [] rfl (by decide) (by simp) _ (RdN.nil _ none)).mono ?_
  rintro e W2 ⟨rfl, hO, hb2⟩
  have HO := Lib.hid hO
  have HB2 := Lib.hid hb2
  clear hO hb2
  go_wp2_with fail
  refine (sizeS HO.out).mono ?_
  rintro e W3 ⟨rfl, hw⟩
  obtain rfl : W2 = W3 := hw.symm
  clear hw
  have hbb : W.heap.size + 1 < W1.heap.size := HLT.out
  have hS2 := Lib.hid (HS.out.below HB2.out)
  have hA2 := Lib.hid (HBA.out.below HB2.out)
  have hB2 := Lib.hid (HB.out.trans (HB2.out.mono HB.out.size))
  clear HS HBA HB HB2
  by_cases hmn : m = n
  · subst hmn
    go_wp2_with fail
    refine (newBadS _ _ (by omega)).mono ?_
    rintro e V1 ⟨rfl, hw⟩
    have hw2 := hw.symm
    subst hw2
    clear hw
    go_wp2_with fail
    refine (newBadS _ _ (by omega)).mono ?_
    rintro e V2 ⟨rfl, hw⟩
    have hw2 := hw.symm
    subst hw2
    clear hw
    go_wp2_with fail
    refine (addOutS hS2.out _ (by omega)).mono ?_
    rintro e V3 ⟨rfl, hw⟩
    have hw2 := hw.symm
    subst hw2
    clear hw
    go_wp2_with fail
    refine (removeOutS hS2.out _ (by omega)).mono ?_
    rintro e V4 ⟨rfl, hw⟩
    have hw2 := hw.symm
    subst hw2
    clear hw
    go_wp2_with fail
    refine (unionS hS2.out HO.out).mono ?_
    rintro e X ⟨rfl, hs, ho⟩
    replace hs := hs.congr (g := F) (fun i _ => by simp [inL])
    have hS3 := Lib.hid hs
    have hO3 := Lib.hid (HO.out.other ho (by omega))
    have hA3 := Lib.hid (hA2.out.other ho (by omega))
    have hB3 := Lib.hid (hB2.out.trans (ho.below (Nat.le_refl _) hB2.out.size))
    clear hS2 HO hA2 hB2 hs ho
    have hS2 := hS3
    have HO := hO3
    have hA2 := hA3
    have hB2 := hB3
    clear hS3 hO3 hA3 hB3
    go_wp2_with fail
    refine (minusS hS2.out HO.out).mono ?_
    rintro e X ⟨rfl, hs, ho⟩
    replace hs := hs.congr (g := F) (fun i _ => by simp [inL])
    have hS3 := Lib.hid hs
    have hO3 := Lib.hid (HO.out.other ho (by omega))
    have hA3 := Lib.hid (hA2.out.other ho (by omega))
    have hB3 := Lib.hid (hB2.out.trans (ho.below (Nat.le_refl _) hB2.out.size))
    clear hS2 HO hA2 hB2 hs ho
    have hS2 := hS3
    have HO := hO3
    have hA2 := hA3
    have hB2 := hB3
    clear hS3 hO3 hA3 hB3
    go_wp2_with fail
    refine (slots_any _ _ F hn34 _ hA2.out).mono ?_
    rintro e X2 ⟨⟨p2, c2, rfl, hrd, -⟩, hb2⟩
    have hS3 := Lib.hid (hS2.out.below hb2)
    have hB3 := Lib.hid (hB2.out.trans (hb2.mono hB2.out.size))
    have HRD := Lib.hid hrd
    clear hb2 hrd hS2 hB2
    go_wp2_with fail
    refine (sameS _ hS3.out HRD.out rfl).mono ?_
    rintro e X3 ⟨rfl, hb2⟩
    have hB4 := Lib.hid (hB3.out.trans (hb2.mono hB3.out.size))
    clear hb2 hB3
    go_wp2_with fail
    refine (works8_any _).mono ?_
    rintro e X4 ⟨rfl, hb2⟩
    have hB5 := Lib.hid (hB4.out.trans (hb2.mono hB4.out.size))
    clear hb2 hB4
    go_wp2_with fail
    go_ret
    exact ⟨rfl, hB5.out⟩
  · have hne : ((m : Int) == (n : Int)) = false := by simp; omega
    have hne2 : ((m : Int) != (n : Int)) = true := by simp; omega
    go_wp2_with fail
    refine (newBadS _ _ (by omega)).mono ?_
    rintro e V1 ⟨rfl, hw⟩
    have hw2 := hw.symm
    subst hw2
    clear hw
    go_wp2_with fail
    refine (newBadS _ _ (by omega)).mono ?_
    rintro e V2 ⟨rfl, hw⟩
    have hw2 := hw.symm
    subst hw2
    clear hw
    go_wp2_with fail
    refine (addOutS hS2.out _ (by omega)).mono ?_
    rintro e V3 ⟨rfl, hw⟩
    have hw2 := hw.symm
    subst hw2
    clear hw
    go_wp2_with fail
    refine (removeOutS hS2.out _ (by omega)).mono ?_
    rintro e V4 ⟨rfl, hw⟩
    have hw2 := hw.symm
    subst hw2
    clear hw
    go_wp2_with fail
    refine (unionOutS hS2.out HO.out (fun e => hmn e.symm)).mono ?_
    rintro e X ⟨rfl, hb2⟩
    have hS3 := Lib.hid (hS2.out.below hb2)
    have hO3 := Lib.hid (HO.out.below hb2)
    have hA3 := Lib.hid (hA2.out.below hb2)
    have hB3 := Lib.hid (hB2.out.trans (hb2.mono hB2.out.size))
    clear hS2 HO hA2 hB2 hb2
    have hS2 := hS3
    have HO := hO3
    have hA2 := hA3
    have hB2 := hB3
    clear hS3 hO3 hA3 hB3
    go_wp2_with fail
    refine (minusOutS hS2.out HO.out (fun e => hmn e.symm)).mono ?_
    rintro e X ⟨rfl, hb2⟩
    have hS3 := Lib.hid (hS2.out.below hb2)
    have hO3 := Lib.hid (HO.out.below hb2)
    have hA3 := Lib.hid (hA2.out.below hb2)
    have hB3 := Lib.hid (hB2.out.trans (hb2.mono hB2.out.size))
    clear hS2 HO hA2 hB2 hb2
    have hS2 := hS3
    have HO := hO3
    have hA2 := hA3
    have hB2 := hB3
    clear hS3 hO3 hA3 hB3
    go_wp2_with fail
    refine (slots_any _ _ F hn34 _ hA2.out).mono ?_
    rintro e X2 ⟨⟨p2, c2, rfl, hrd, -⟩, hb2⟩
    have hS3 := Lib.hid (hS2.out.below hb2)
    have hB3 := Lib.hid (hB2.out.trans (hb2.mono hB2.out.size))
    have HRD := Lib.hid hrd
    clear hb2 hrd hS2 hB2
    go_wp2_with fail
    refine (sameS _ hS3.out HRD.out rfl).mono ?_
    rintro e X3 ⟨rfl, hb2⟩
    have hB4 := Lib.hid (hB3.out.trans (hb2.mono hB3.out.size))
    clear hb2 hB3
    go_wp2_with fail
    refine (works8_any _).mono ?_
    rintro e X4 ⟨rfl, hb2⟩
    have hB5 := Lib.hid (hB4.out.trans (hb2.mono hB4.out.size))
    clear hb2 hB4
    go_wp2_with fail
    go_ret
    exact ⟨rfl, hB5.out⟩
end Go.Proofs.Ytejkbanecbjdoaa
