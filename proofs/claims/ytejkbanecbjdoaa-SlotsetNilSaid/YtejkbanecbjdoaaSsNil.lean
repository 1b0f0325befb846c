/- SlotsetNil. -/
import Derived.Test.YtejkbanecbjdoaaSsBad
import Derived.Test.YtejkbanecbjdoaaSsKnown
namespace Go.Proofs.Ytejkbanecbjdoaa
open Go Go.RowKit

attribute [local go_sem] Oper.semAt_some

set_option maxHeartbeats 8000000 in
set_option maxRecDepth 100000 in
theorem nil_any (i : Int) (W : World) : Calls Try.prog 4 #[.int .i64 i] W fun e w' => e = .returned (.bool true) ∧ Below W.heap.size W w' := by
  have hset := set_list 8 (by decide) (by decide) [3] (by decide) (by decide) W
  go_enter Try.func4, Try.ntmps4
  go_wp2_with fail
  refine hset.mono ?_
  rintro e W1 ⟨rfl, hS, hb⟩
  clear hset
  have HS := Lib.hid hS
  have HB := Lib.hid hb
  clear hS hb
  go_wp2_with fail
  obtain ⟨T, hT⟩ : ∃ T, T = W1.heap.size := ⟨_, rfl⟩
  obtain ⟨WX, hWX⟩ : ∃ WX, WX = (W1.alloc (.cells #[.pointer none, .int .i64 0, .int .u64 0] 50)).alloc (.cells #[.pointer none, .pointer (some ⟨T, 0, none⟩)] 27) := ⟨_, rfl⟩
  have hbX : Below T W1 WX := by rw [hWX, hT]; exact ((Below.refl _ _).alloc (Nat.le_refl _) _).alloc (by simp) _
  have hz : WX.heap[T]? = some (.cells #[.pointer none, .int .i64 0, .int .u64 0] 50 (0, 0)) := by
    rw [hWX, hT]; exact (Below.heap_alloc _ _ _ (by simp)).trans (heap_alloc_new W1 _)
  have hrow : WX.heap[T + 1]? = some (.cells #[.pointer none, .pointer (some ⟨T, 0, none⟩)] 27 (0, 0)) := by
    have := heap_alloc_new (W1.alloc (.cells #[.pointer none, .int .i64 0, .int .u64 0] 50)) (.cells #[.pointer none, .pointer (some ⟨T, 0, none⟩)] 27)
    rw [hWX, hT]
    rw [hT] at this
    rwa [World.size_alloc] at this
  have hc0 : WX.cell? ⟨T + 1, 0, none⟩ = some (.pointer none) := by simp [World.cell?, hrow]
  have hc1 : WX.cell? ⟨T + 1, 1, none⟩ = some (.pointer (some ⟨T, 0, none⟩)) := by simp [World.cell?, hrow]
  have hv1 : Void WX (some ⟨T, 0, none⟩) := void_zero WX T (by simp [World.cell?, hz])
  have hlt := (Array.getElem?_eq_some_iff.1 hrow).1
  have HC : Hid (∀ k, k < 2 → ∃ v, WX.cell? ⟨T + 1, k, none⟩ = some (.pointer v) ∧ Void WX v) := Lib.hid fun k hk => by
    match k, hk with
    | 0, _ => exact ⟨none, hc0, void_nil WX⟩
    | 1, _ => exact ⟨_, hc1, hv1⟩
  have HSX := Lib.hid (HS.out.below (hT ▸ hbX))
  have HBX := Lib.hid (HB.out.trans ((hT ▸ hbX : Below W1.heap.size W1 WX).mono HB.out.size))
  have HLT := Lib.hid hlt
  rw [← hT, ← hWX]
  clear hT hWX hbX hz hrow hc0 hc1 hv1 hlt HS HB
  go_loopw [6] (fun i wr => ∃ k : Nat, k ≤ 2 ∧ i = .int .i64 (k : Nat) ∧ Hid (Below WX.heap.size WX wr)) (fun i _ => 2 - (intOf i).toNat)
  case atStart => exact ⟨0, by omega, rfl, Below.refl _ _⟩
  case round =>
    obtain ⟨k, hk, rfl, HI⟩ := hrel
    by_cases hk2 : k < 2
    · obtain ⟨v, hc, hv⟩ := HC.out k hk2
      have hcell := (HI.out.cell (p := ⟨T + 1, k, none⟩) HLT.out).trans hc
      have HV : Hid (∀ V, Below WX.heap.size WX V → Void V v) := Lib.hid fun V hV => hv.below hV
      have h0 : (0 : Int) ≤ (k : Int) := by omega
      have hk1 : (k : Int) < 2 := by omega
      clear hc hv
      go_wp2_with fail
      refine (nextV i _ (HV.out _ HI.out)).mono ?_
      rintro e Y1 ⟨rfl, hb2⟩
      have HJ := Lib.hid (HI.out.trans (hb2.mono HI.out.size))
      clear hb2 HI
      have HI := HJ
      clear HJ
      go_wp2_with fail
      refine (lowestV _ (HV.out _ HI.out)).mono ?_
      rintro e Y2 ⟨rfl, hb2⟩
      have HJ := Lib.hid (HI.out.trans (hb2.mono HI.out.size))
      clear hb2 HI
      have HI := HJ
      clear HJ
      go_wp2_with fail
      refine (addV (HV.out _ HI.out) i).mono ?_
      rintro e Y3 ⟨rfl, hw⟩
      have hw2 := hw.symm
      subst hw2
      clear hw
      go_wp2_with fail
      refine (removeV (HV.out _ HI.out) i).mono ?_
      rintro e Y4 ⟨rfl, hw⟩
      have hw2 := hw.symm
      subst hw2
      clear hw
      go_wp2_with fail
      refine (hasV (HV.out _ HI.out) i).mono ?_
      rintro e Y5 ⟨rfl, m, rfl⟩
      have HJ := Lib.hid (Below.drewN' m HI.out)
      clear HI
      have HI := HJ
      clear HJ
      go_wp2_with fail
      refine (lenV (HV.out _ HI.out)).mono ?_
      rintro e Y6 ⟨rfl, hw⟩
      have hw2 := hw.symm
      subst hw2
      clear hw
      go_wp2_with fail
      refine (sizeV (HV.out _ HI.out)).mono ?_
      rintro e Y7 ⟨rfl, hw⟩
      have hw2 := hw.symm
      subst hw2
      clear hw
      go_wp2_with fail
      refine (copyV (HV.out _ HI.out)).mono ?_
      rintro e Y8 ⟨rfl, hw⟩
      have hw2 := hw.symm
      subst hw2
      clear hw
      go_wp2_with fail
      refine (sameV _ (HV.out _ HI.out)).mono ?_
      rintro e Y9 ⟨rfl, hb2⟩
      have HJ := Lib.hid (HI.out.trans (hb2.mono HI.out.size))
      clear hb2 HI
      have HI := HJ
      clear HJ
      go_wp2_with fail
      refine (unionV (HV.out _ HI.out) _).mono ?_
      rintro e Y10 ⟨rfl, hw⟩
      have hw2 := hw.symm
      subst hw2
      clear hw
      go_wp2_with fail
      refine (union2V (HV.out _ HI.out) (HSX.out.below HI.out)).mono ?_
      rintro e Y11 ⟨rfl, hw⟩
      have hw2 := hw.symm
      subst hw2
      clear hw
      go_wp2_with fail
      refine (minusV (HV.out _ HI.out) _).mono ?_
      rintro e Y12 ⟨rfl, hw⟩
      have hw2 := hw.symm
      subst hw2
      clear hw
      go_wp2_with fail
      refine (minus2V (HV.out _ HI.out) (HSX.out.below HI.out)).mono ?_
      rintro e Y13 ⟨rfl, hw⟩
      have hw2 := hw.symm
      subst hw2
      clear hw
      go_wp2_with fail
      go_roundw
      case rel => exact ⟨k + 1, by omega, by simp, HI⟩
      case measure => simp [intOf]; omega
    · obtain rfl : k = 2 := by omega
      go_wp2_with fail
      refine (same_list _ (HSX.out.below HI.out) [3] (by decide)).mono ?_
      rintro e Z1 ⟨rfl, hb2⟩
      have HJ := Lib.hid (HI.out.trans (hb2.mono HI.out.size))
      clear hb2
      go_wp2_with fail
      refine (works8_any _).mono ?_
      rintro e Z2 ⟨rfl, hb2⟩
      have HK := Lib.hid (HJ.out.trans (hb2.mono HJ.out.size))
      clear hb2
      go_wp2_with fail
      go_ret
      exact ⟨rfl, HBX.out.trans (HK.out.mono HBX.out.size)⟩
end Go.Proofs.Ytejkbanecbjdoaa
