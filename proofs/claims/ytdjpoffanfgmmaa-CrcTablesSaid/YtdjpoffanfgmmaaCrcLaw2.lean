/- CrcTables, CrcShifts: the walks, over the contracts of package crc. -/
import Derived.Test.YtdjpoffanfgmmaaCrcApi
import Derived.Deep.RegionWith
namespace Go.Proofs.Ytdjpoffanfgmmaa
open Go Go.RowKit

set_option maxHeartbeats 3200000 in
set_option maxRecDepth 100000 in
theorem crcTables_u8 {L : World → Prop} (H : CrcOk L) (b : Nat) (w : World) (h : L w) (hb : b < 256) :
    Calls Try.prog 6 #[.int .u8 b] w fun e w' => e = .returned (.bool true) ∧ Below w.heap.size w w' := by
  have HH := Lib.hid H
  have HL := Lib.hid h
  have HTb := HH.out.table _ HL.out
  have htbs := crcTab_size
  have htb1 := crcTab_one
  have htbg := crcTab_get b hb
  have HF : Hid (∀ w, Calls Try.prog 22 #[.int .u32 0, .int .u8 b] w fun e w' => e = .returned (.int .u32 ((feed 0#32 (b : Int)).toNat : Int)) ∧ w = w') := fun w => rFeed_any 0#32 (b : Int) w (by omega) (by omega)
  generalize (feed 0#32 (b : Int)).toNat = fb at *
  generalize crcTab = tb at *
  have HT := Lib.hid HTb
  clear H h HTb
  go_enter Try.func6, Try.ntmps6
  go_wp2_with fail
  refine HT.out.mono ?_
  rintro e w1 ⟨rfl, hb1⟩
  obtain ⟨hz, hzi⟩ := zero_of_info tab_info
  have hzss : (Array.replicate 256 (Value.int .u32 0)).size = 256 := Array.size_replicate
  generalize Array.replicate 256 (Value.int .u32 0) = zs at *
  have hst := run_storeCells_new w1 33 zs tb (by rw [hzi, htbs]) (by rw [hzss, htbs]) htb1
  have hrow : (w1.alloc (.cells tb 33)).heap[w1.heap.size]? = some (.cells tb 33) := heap_alloc_last w1 _
  have hcell : (w1.alloc (.cells tb 33)).cell? ⟨w1.heap.size, b, none⟩ = some (.int .u32 (fb : Int)) := by
    rw [cell_of_row _ _ b _ _ _ hrow]; exact htbg
  have hA := (Below.refl w1.heap.size w1).alloc (Nat.le_refl _) (.cells tb 33)
  have HB1 := Lib.hid (below_then hb1 hA)
  have HL1 := Lib.hid (HH.out.below _ _ HL.out HB1.out)
  clear hrow htb1 htbg hzss hA hb1
  go_wp2_with fail
  have HB2 := Lib.hid (HB1.out.drew)
  have HW := Lib.hid (works2_any HH.out _ (HH.out.below _ _ HL.out HB2.out))
  go_region_with (first
    | (go_at_call 22; refine (HF.out _).mono ?_; rintro e w' ⟨rfl, rfl⟩)
    | (go_at_call 13; refine HW.out.mono ?_; rintro e w' ⟨rfl, hb5⟩))
  all_goals
    go_wp2_with fail
    go_ret
    exact ⟨rfl, below_then HB2.out hb5⟩
end Go.Proofs.Ytdjpoffanfgmmaa
