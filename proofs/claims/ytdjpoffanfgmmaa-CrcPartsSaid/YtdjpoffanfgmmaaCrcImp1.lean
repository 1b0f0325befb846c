/- Package crc: feed, Update, Sum, Valid. -/
import Derived.Test.YtdjpoffanfgmmaaCrcTab
import Derived.Test.YtdjpoffanfgmmaaCrcLaw4
namespace Go.Proofs.Ytdjpoffanfgmmaa
open Go Go.RowKit

theorem feed_any (g : Nat) (x : BitVec 32) (c : Nat) (w : World) (hc : c < 256) (h : Arr w g 256 33 (fun i => feed 0#32 (i : Int))) :
    Calls Try.prog 23 #[.pointer (some ⟨g, 0, none⟩), .int .u32 (x.toNat : Int), .int .u8 c] w fun e w' => e = .returned (.int .u32 ((feed x (c : Int)).toNat : Int)) ∧ w = w' := by
  have hft := feed_tab x c hc
  have hr8 : ((x.toNat % 256 : Nat) : Int) = (x.toNat : Int) % 256 := by omega
  have hxb := xor_u8 (x.toNat % 256) c (by omega) hc
  rw [hr8] at hxb
  have hix : x.toNat % 256 ^^^ c < 256 := Nat.xor_lt_two_pow (n := 8) (by omega) hc
  have hcell := h.cell (x.toNat % 256 ^^^ c) hix
  have hsh := shr_u32 x 8
  have hfx := xor_u32 (feed 0#32 ((x.toNat % 256 ^^^ c : Nat) : Int)) (x >>> 8)
  rw [← hft, ← hsh] at hfx
  rw [show (2 : Int) ^ 8 = 256 from rfl] at hfx
  generalize x.toNat % 256 ^^^ c = ix at *
  generalize (feed 0#32 (ix : Int)).toNat = fx at *
  generalize (feed x (c : Int)).toNat = fy at *
  have hlt := x.isLt
  generalize x.toNat = yn at *
  have hix0 : (0 : Int) ≤ (ix : Int) := by omega
  have hix1 : (ix : Int) < 256 := by omega
  clear hr8 hft hsh h
  go_enter Try.func23, Try.ntmps23
  go_wp2_with fail
  go_ret
  exact ⟨rfl, rfl⟩

theorem not_u32 (x : BitVec 32) : bits .xor .u32 IntKind.u32.max (x.toNat : Int) = ((x ^^^ crcF).toNat : Int) := by
  have h := xor_u32 crcF x
  rw [BitVec.xor_comm] at h
  exact h

set_option maxHeartbeats 1600000 in
set_option maxRecDepth 100000 in
theorem update_any (s : BitVec 32) (p : Option Addr) (len cap : Nat) (xs : List Int) (w : World) (hl : len ≤ 1000000) (hS : Sl w p len cap xs) :
    Calls Try.prog 17 #[.int .u32 (s.toNat : Int), .slice p len cap] w fun e w' => e = .returned (.int .u32 ((crcU s xs).toNat : Int)) ∧ Below w.heap.size w w' := by
  have HS := Lib.hid hS
  have hlc := hS.cap
  have HT := Lib.hid (table_any w)
  have htbs := crcTab_size
  have htb1 := crcTab_one
  have HTr := Lib.hid crcTab_row
  have hsg : IntKind.u32.signed = false := rfl
  have hn1 := not_u32 s
  have hn2 := not_u32 (feeds (s ^^^ crcF) xs)
  have HU := Lib.hid (show crcU s xs = feeds (s ^^^ crcF) xs ^^^ crcF from rfl)
  rw [← HU.out] at hn2
  have HN2 := Lib.hid hn2
  generalize s ^^^ crcF = y at *
  clear hn2
  generalize crcTab = tb at *
  clear hS
  go_enter Try.func17, Try.ntmps17
  go_wp2_with fail
  refine HT.out.mono ?_
  rintro e w1 ⟨rfl, hb1⟩
  obtain ⟨hz, hzi⟩ := zero_of_info tab_info
  have hzss : (Array.replicate 256 (Value.int .u32 0)).size = 256 := Array.size_replicate
  generalize Array.replicate 256 (Value.int .u32 0) = zs at *
  have hst := run_storeCells_new w1 33 zs tb (by rw [hzi, htbs]) (by rw [hzss, htbs]) htb1
  have hA := (Below.refl w1.heap.size w1).alloc (Nat.le_refl _) (.cells tb 33)
  have HG : Hid (Arr (w1.alloc (.cells tb 33)) w1.heap.size 256 33 (fun i => feed 0#32 (i : Int)) ∧ Below w.heap.size w (w1.alloc (.cells tb 33)) ∧ Sl (w1.alloc (.cells tb 33)) p len cap xs) :=
    ⟨by rw [HTr.out]; exact arr_new _ _ _ _, below_then hb1 hA, HS.out.below (below_then hb1 hA)⟩
  clear htb1 hzss hA hb1
  go_wp2_with fail
  go_loopw [6, 14] (fun v i wr => ∃ k : Nat, k ≤ len ∧ i = .int .i64 k ∧ v = .int .u32 ((feeds y (xs.take k)).toNat : Int) ∧ Hid (Arr wr w1.heap.size 256 33 (fun i => feed 0#32 (i : Int)) ∧ Below w.heap.size w wr ∧ Sl wr p len cap xs))
    (fun _ i _ => len - (intOf i).toNat)
  case atStart => exact ⟨0, by omega, rfl, rfl, HG⟩
  case round =>
    clear HG hst
    obtain ⟨k, hk, rfl, rfl, HR⟩ := hrel
    by_cases hlt : k < len
    · obtain ⟨b, o, rfl, hc⟩ := HR.out.2.2.bytes (by omega)
      have hcell := hc k hlt
      have hkx : k < xs.length := by rw [HS.out.len]; exact hlt
      have hr : 0 ≤ xs.getD k 0 ∧ xs.getD k 0 < 256 := by
        simp only [List.getD_eq_getElem?_getD, List.getElem?_eq_getElem hkx, Option.getD_some]
        exact HS.out.rng _ (List.getElem_mem _)
      have hst : feed (feeds y (xs.take k)) (xs.getD k 0) = feeds y (xs.take (k + 1)) := by
        rw [← feeds_snoc, List.take_succ_eq_append_getElem hkx]; simp [List.getD, hkx]
      obtain ⟨nb, hnb⟩ := Int.eq_ofNat_of_zero_le hr.1
      rw [hnb] at hcell hst hr
      have HF := Lib.hid (feed_any w1.heap.size (feeds y (xs.take k)) nb wr (by omega) HR.out.1)
      have HSt := Lib.hid hst
      clear hst hc hkx hnb hr
      go_wp2_with (go_at_call 23; refine HF.out.mono ?_; rintro e w' ⟨rfl, rfl⟩)
      go_roundw
      case rel => exact ⟨k + 1, by omega, by go_num, by rw [← HSt.out], HR⟩
      case measure => simp [intOf]; omega
    · have hkl : k = len := by omega
      subst hkl
      have htk : xs.take k = xs := List.take_of_length_le (by rw [HS.out.len]; omega)
      rw [htk]
      have hy := HN2.out
      go_wp2_with fail
      go_ret
      exact ⟨rfl, HR.out.2.1⟩

theorem sum_any (p : Option Addr) (len cap : Nat) (xs : List Int) (w : World) (hl : len ≤ 1000000) (hS : Sl w p len cap xs) :
    Calls Try.prog 15 #[.slice p len cap] w fun e w' => e = .returned (.int .u32 ((crcU 0#32 xs).toNat : Int)) ∧ Below w.heap.size w w' := by
  have HU := Lib.hid (update_any 0#32 p len cap xs w hl hS)
  go_enter Try.func15, Try.ntmps15
  go_wp2_with fail
  refine HU.out.mono ?_
  rintro e w1 ⟨rfl, hb⟩
  go_wp2_with fail
  go_ret
  exact ⟨rfl, hb⟩

theorem valid_any (s : BitVec 32) (p : Option Addr) (len cap : Nat) (xs : List Int) (w : World) (hl : len ≤ 1000000) (hS : Sl w p len cap xs) :
    Calls Try.prog 16 #[.slice p len cap, .int .u32 (s.toNat : Int)] w fun e w' => e = .returned (.bool (crcU 0#32 xs == s)) ∧ Below w.heap.size w w' := by
  have HU := Lib.hid (sum_any p len cap xs w hl hS)
  generalize crcU 0#32 xs = y at *
  have hd : decide ((y.toNat : Int) = (s.toNat : Int)) = (y == s) := by
    by_cases h : y = s
    · subst h; simp
    · have : ¬ (y.toNat : Int) = (s.toNat : Int) := fun h2 => h (BitVec.eq_of_toNat_eq (by omega))
      simp [h, this]
  go_enter Try.func16, Try.ntmps16
  go_wp2_with fail
  refine HU.out.mono ?_
  rintro e w1 ⟨rfl, hb⟩
  go_wp2_with fail
  go_ret
  exact ⟨congrArg (fun b => Ending.returned (Value.bool b)) hd, hb⟩
end Go.Proofs.Ytdjpoffanfgmmaa
