/- CrcBytes: the walk, over the contracts of package crc. -/
import Derived.Test.YtdjpoffanfgmmaaCrcLaw4
import Derived.Test.YtdjpoffanfgmmaaCrcRef2
import Derived.Deep.QuietTactic
import Derived.BigQuiet
namespace Go.Proofs.Ytdjpoffanfgmmaa
open Go Go.RowKit

theorem sl_one {w : World} {b o n c : Nat} {l : List Int} (h : Sl w (some ⟨b, o, none⟩) n c l) (i : Nat) (hi : i < n) : Sl w (some ⟨b, o + i, none⟩) 1 (c - i) [l.getD i 0] := by
  have hc := h.cap
  have hl : i < l.length := by rw [h.len]; exact hi
  refine ⟨rfl, by omega, ?_, (fun h => by cases h), fun y hy => ?_⟩
  · intro _
    obtain ⟨b', o', hp, hcc⟩ := h.bytes (by omega)
    cases hp
    refine ⟨b, o + i, rfl, fun j hj => ?_⟩
    have : j = 0 := by omega
    subst this
    rw [Nat.add_zero, hcc i hi]
    rfl
  · rw [List.mem_singleton] at hy
    subst hy
    simp only [List.getD_eq_getElem?_getD, List.getElem?_eq_getElem hl, Option.getD_some]
    exact h.rng _ (List.getElem_mem _)

set_option maxHeartbeats 6400000 in
set_option maxRecDepth 100000 in
theorem crcBytes_sl {L : World → Prop} (H : CrcOk L) (s : BitVec 32) (p : Option Addr) (len cap : Nat) (xs : List Int) (w : World) (h : L w) (hS : Sl w p len cap xs) :
    Calls Try.prog 12 #[.int .u32 (s.toNat : Int), .slice p len cap] w fun e w' => e = .returned (.bool true) ∧ Below w.heap.size w w' := by
  have HH := Lib.hid H
  have HL := Lib.hid h
  have HS := Lib.hid hS
  have hlc := hS.cap
  clear H h hS
  by_cases hbig : 300 < len
  · go_enter Try.func12, Try.ntmps12
    go_wp2_with fail
    refine (works2_any HH.out _ HL.out).mono ?_
    rintro e w1 ⟨rfl, hb⟩
    go_wp2_with fail
    go_ret
    exact ⟨rfl, hb⟩
  · have HTb := HH.out.table _ HL.out
    have htbs := crcTab_size
    have htb1 := crcTab_one
    have HTg := Lib.hid crcTab_get
    generalize crcTab = tb at *
    have HT := Lib.hid HTb
    clear HTb
    go_enter Try.func12, Try.ntmps12
    go_wp2_with fail
    refine HT.out.mono ?_
    rintro e w1 ⟨rfl, hb1⟩
    obtain ⟨hz, hzi⟩ := zero_of_info tab_info
    have hzss : (Array.replicate 256 (Value.int .u32 0)).size = 256 := Array.size_replicate
    generalize Array.replicate 256 (Value.int .u32 0) = zs at *
    have hst := run_storeCells_new w1 33 zs tb (by rw [hzi, htbs]) (by rw [hzss, htbs]) htb1
    have hrow : (w1.alloc (.cells tb 33)).heap[w1.heap.size]? = some (.cells tb 33) := heap_alloc_last w1 _
    have HC : Hid (∀ i, i < 256 → (w1.alloc (.cells tb 33)).cell? ⟨w1.heap.size, i, none⟩ = some (.int .u32 ((feed 0#32 (i : Int)).toNat : Int))) := by
      intro i hi
      rw [cell_of_row _ _ i _ _ _ hrow]; exact HTg.out i hi
    have hA := (Below.refl w1.heap.size w1).alloc (Nat.le_refl _) (.cells tb 33)
    have HB1 := Lib.hid (below_then hb1 hA)
    have HL1 := Lib.hid (HH.out.below _ _ HL.out HB1.out)
    have HG1 : Hid (L (w1.alloc (.cells tb 33)) ∧ Below w.heap.size w (w1.alloc (.cells tb 33)) ∧ ∀ i, i < 256 → (w1.alloc (.cells tb 33)).cell? ⟨w1.heap.size, i, none⟩ = some (.int .u32 ((feed 0#32 (i : Int)).toNat : Int))) := ⟨HL1.out, HB1.out, HC.out⟩
    clear hrow htb1 hzss hA hb1 HC HB1 HL1
    go_wp2_with fail
    go_loopw [0, 6] (fun vs i wr => ∃ (k : Nat) (t : BitVec 32), k ≤ len ∧ i = .int .i64 k ∧ vs = .int .u32 (t.toNat : Int) ∧ Hid (L wr ∧ Below w.heap.size w wr ∧ ∀ i, i < 256 → wr.cell? ⟨w1.heap.size, i, none⟩ = some (.int .u32 ((feed 0#32 (i : Int)).toNat : Int))))
      (fun _ i _ => len - (intOf i).toNat)
    case atStart => exact ⟨0, s, by omega, rfl, rfl, HG1⟩
    case round =>
      obtain ⟨k, t, hk, rfl, rfl, HR⟩ := hrel
      by_cases hlt : k < len
      · obtain ⟨bb, o, rfl, hc⟩ := HS.out.bytes (by omega)
        have hc1 := hc k hlt
        have hcb : wr.cell? ⟨bb, o + k, none⟩ = some (.int .u8 (xs.getD k 0)) := (HR.out.2.1.cell (World.block_lt_of_cell? _ _ hc1)).trans hc1
        have hrg : 0 ≤ xs.getD k 0 ∧ xs.getD k 0 < 256 := by
          have hkx : k < xs.length := by rw [HS.out.len]; exact hlt
          simp only [List.getD_eq_getElem?_getD, List.getElem?_eq_getElem hkx, Option.getD_some]
          exact HS.out.rng _ (List.getElem_mem _)
        have HS1 := Lib.hid ((sl_one HS.out k hlt).below HR.out.2.1)
        obtain ⟨nb, hnb⟩ := Int.eq_ofNat_of_zero_le hrg.1
        rw [hnb] at hcb HS1 hrg
        have hnb8 : nb < 256 := by omega
        have hF : (crcF.toNat : Int) = 4294967295 := by decide
        have hx := xor_u32 t crcF
        rw [hF] at hx
        have hft := feed_tab (t ^^^ crcF) nb hnb8
        have hU : crcU t [(nb : Int)] = feed (t ^^^ crcF) (nb : Int) ^^^ crcF := rfl
        have hnx := xor_u32 (feed (t ^^^ crcF) (nb : Int)) crcF
        rw [hF, ← hU] at hnx
        have HUp := Lib.hid (HH.out.upd t (some ⟨bb, o + k, none⟩) 1 (cap - k) [(nb : Int)] wr (by omega) HS1.out HR.out.1)
        generalize crcU t [(nb : Int)] = un at *
        have hr8 : (((t ^^^ crcF).toNat % 256 : Nat) : Int) = ((t ^^^ crcF).toNat : Int) % 256 := by omega
        have hxb := xor_u8 ((t ^^^ crcF).toNat % 256) nb (by omega) hnb8
        rw [hr8] at hxb
        have hix : (t ^^^ crcF).toNat % 256 ^^^ nb < 256 := Nat.xor_lt_two_pow (n := 8) (by omega) hnb8
        have hcell := HR.out.2.2 ((t ^^^ crcF).toNat % 256 ^^^ nb) hix
        have hsh := shr_u32 (t ^^^ crcF) 8
        have hfx := xor_u32 (feed 0#32 (((t ^^^ crcF).toNat % 256 ^^^ nb : Nat) : Int)) ((t ^^^ crcF) >>> 8)
        rw [← hft, ← hsh] at hfx
        rw [show (2 : Int) ^ 8 = 256 from rfl] at hfx
        generalize (t ^^^ crcF).toNat % 256 ^^^ nb = ix at *
        generalize (feed 0#32 (ix : Int)).toNat = fx at *
        generalize (feed (t ^^^ crcF) (nb : Int)).toNat = fy at *
        generalize hyd : (t ^^^ crcF).toNat = yn at *
        have hylt : yn < 4294967296 := by rw [← hyd]; exact (t ^^^ crcF).isLt
        have hix0 : (0 : Int) ≤ (ix : Int) := by omega
        have hix1 : (ix : Int) < 256 := by omega
        clear hr8 hft hU hF hc hc1 hyd hsh hnb hrg
        go_wp2_with fail
        refine HUp.out.mono ?_
        rintro e w6 ⟨rfl, hb6⟩
        have HR6 : Hid (L w6 ∧ Below w.heap.size w w6 ∧ ∀ i, i < 256 → w6.cell? ⟨w1.heap.size, i, none⟩ = some (.int .u32 ((feed 0#32 (i : Int)).toNat : Int))) :=
          ⟨HH.out.below _ _ HR.out.1 hb6, HR.out.2.1.trans (hb6.mono HR.out.2.1.size), fun i hi => (hb6.cell (World.block_lt_of_cell? _ _ (HR.out.2.2 i hi))).trans (HR.out.2.2 i hi)⟩
        clear hb6 HR hcell hcb
        go_wp2_with fail
        go_roundw
        case rel => exact ⟨k + 1, un, by omega, by go_num, rfl, HR6⟩
        case measure => simp [intOf]; omega
      · go_wp2_with fail
        refine (works2_any HH.out _ HR.out.1).mono ?_
        rintro e w8 ⟨rfl, hb8⟩
        go_wp2_with fail
        go_ret
        exact ⟨rfl, HR.out.2.1.trans (hb8.mono HR.out.2.1.size)⟩
end Go.Proofs.Ytdjpoffanfgmmaa
