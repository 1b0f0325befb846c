/- HistoryNil, the walk. -/
import Derived.Test.YtahccgbmbnmcgaaHiNil
namespace Go.Proofs.Ytahccgbmbnmcgaa
open Go Go.RowKit

set_option maxHeartbeats 3200000 in
set_option maxRecDepth 100000 in
theorem nil_any (x : ByteArray) (k : Int) (w : World) :
    Calls Try.prog 4 #[.string x, .int .i64 k] w fun e w' => e = .returned (.bool true) ∧ Below w.heap.size w w' := by
  have HW : Hid (∀ W, Calls Try.prog 10 #[] W fun e w' => e = .returned (.bool true) ∧ Below W.heap.size W w') := Lib.hid works7_any
  by_cases hx : (1000 : Int) < (x.size : Int)
  · have hd : decide ((1000 : Int) < (x.size : Int)) = true := decide_eq_true hx
    go_enter Try.func4, Try.ntmps4
    go_wp2_with fail
    refine (HW.out _).mono ?_
    rintro e V3 ⟨rfl, hb9⟩
    go_wp2_with fail
    go_ret
    exact ⟨rfl, hb9⟩
  · have hd : decide ((1000 : Int) < (x.size : Int)) = false := decide_eq_false hx
    obtain ⟨W1, hW1⟩ : ∃ W1, W1 = (w.alloc (.cells #[.pointer none, .int .i64 0, .slice none 0 0, .int .i64 0] 41)).alloc (.cells #[.pointer none, .pointer (some ⟨w.heap.size, 0, none⟩)] 24) := ⟨_, rfl⟩
    have hb1 : Below w.heap.size w W1 := by rw [hW1]; exact ((Below.refl _ _).alloc (Nat.le_refl _) _).alloc (by simp) _
    have hc0 : W1.heap[w.heap.size]? = some (.cells #[.pointer none, .int .i64 0, .slice none 0 0, .int .i64 0] 41 (0, 0)) := by rw [hW1]; exact (Below.heap_alloc _ _ _ (by simp)).trans (heap_alloc_new _ _)
    have hc1 : W1.heap[w.heap.size + 1]? = some (.cells #[.pointer none, .pointer (some ⟨w.heap.size, 0, none⟩)] 24 (0, 0)) := by
      have := heap_alloc_new (w.alloc (.cells #[.pointer none, .int .i64 0, .slice none 0 0, .int .i64 0] 41)) (.cells #[.pointer none, .pointer (some ⟨w.heap.size, 0, none⟩)] 24)
      rw [hW1]; simpa using this
    have HC : Hid (∀ i, i < 2 → ∃ v, W1.cell? ⟨w.heap.size + 1, i, none⟩ = some (.pointer v) ∧ BadS W1 v) := Lib.hid fun i hi => by
      have h4 : i = 0 ∨ i = 1 := by omega
      rcases h4 with rfl | rfl
      · exact ⟨none, by simp only [World.cell?, hc1]; rfl, badNilS W1⟩
      · exact ⟨some ⟨w.heap.size, 0, none⟩, by simp only [World.cell?, hc1]; rfl, badZeroS W1 w.heap.size (by simp only [World.cell?, hc0]; rfl)⟩
    have HB1 : Hid (Below w.heap.size w W1) := Lib.hid hb1
    clear hb1 hc0 hc1
    go_enter Try.func4, Try.ntmps4
    go_wp2_with fail
    rw [← hW1]
    clear hW1
    go_loopw [17] (fun sc wr => ∃ (i : Nat), i ≤ 2 ∧ sc = .int .i64 i ∧ Hid (Below W1.heap.size W1 wr)) (fun sc _ => 2 - (intOf sc).toNat)
    case atStart => exact ⟨0, Nat.zero_le _, rfl, Lib.hid (Below.refl _ _)⟩
    case round =>
      obtain ⟨i, hi, rfl, HR⟩ := hrel
      by_cases hlt : i < 2
      · obtain ⟨v, hv0, hbad⟩ := HC.out i hlt
        have hv := (HR.out.cell (p := ⟨w.heap.size + 1, i, none⟩) (World.block_lt_of_cell? _ _ hv0)).trans hv0
        have hmk := markNS hbad wr HR.out
        have hcl := clearNS hbad wr HR.out
        have had := addNS hbad x wr HR.out
        have hct := cutNS hbad k wr HR.out
        have hsh := showsN hbad k wr HR.out
        have hi0 : (0 : Int) ≤ (i : Int) := by omega
        have hi1 : (i : Int) < 2 := by omega
        have HBAD := Lib.hid hbad
        clear hv0 hbad
        go_wp2_with fail
        refine hmk.mono ?_
        rintro e V1 ⟨⟨u1, rfl⟩, rfl⟩
        go_wp2_with fail
        refine hcl.mono ?_
        rintro e V2 ⟨⟨u2, rfl⟩, rfl⟩
        go_wp2_with fail
        refine had.mono ?_
        rintro e V3 ⟨rfl, rfl⟩
        go_wp2_with fail
        refine hct.mono ?_
        rintro e V4 ⟨rfl, rfl⟩
        go_wp2_with fail
        refine hsh.mono ?_
        rintro e V5 ⟨rfl, hb5⟩
        have HR5 := Lib.hid (HR.out.trans (hb5.out.mono HR.out.size))
        have hcp := copyNS HBAD.out V5 HR5.out
        clear hmk hcl had hct hsh hb5 HR hv
        go_wp2_with fail
        refine hcp.mono ?_
        rintro e V6 ⟨rfl, rfl⟩
        clear hcp
        go_wp2_with fail
        go_roundw
        case rel => exact ⟨i + 1, by omega, by go_num, HR5⟩
        case measure => simp [intOf]; omega
      · obtain rfl : i = 2 := by omega
        go_wp2_with fail
        refine (HW.out _).mono ?_
        rintro e V3 ⟨rfl, hb9⟩
        have HF := Lib.hid ((HB1.out.trans (HR.out.mono HB1.out.size)).trans (hb9.mono (Nat.le_trans HB1.out.size HR.out.size)))
        clear hb9 HR
        go_wp2_with fail
        go_ret
        exact ⟨rfl, HF.out⟩
end Go.Proofs.Ytahccgbmbnmcgaa
