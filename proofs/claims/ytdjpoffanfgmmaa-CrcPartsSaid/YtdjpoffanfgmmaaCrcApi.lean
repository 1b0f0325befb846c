/- What the laws of stage 2 ask of package crc, and the example 'works'. -/
import Derived.Test.YtdjpoffanfgmmaaCrcRef3
import Derived.Test.YtdjpoffanfgmmaaCrcMath3
import Derived.Lib.SlBytesConst
import Derived.Deep.WholeRow
namespace Go.Proofs.Ytdjpoffanfgmmaa
open Go Go.RowKit

/-- The table. -/
def crcTab : Array Value := ((List.range 256).map fun i => Value.int .u32 ((feed 0#32 ((i : Nat) : Int)).toNat : Int)).toArray

/-- The contracts of package crc, in worlds in which its variables (if any) hold what the program's text lays. -/
structure CrcOk (L : World → Prop) : Prop where
  below : ∀ w w', L w → Below w.heap.size w w' → L w'
  sum : ∀ p len cap xs w, len ≤ 1000000 → Sl w p len cap xs → L w → Calls Try.prog 15 #[.slice p len cap] w fun e w' => e = .returned (.int .u32 ((crcU 0#32 xs).toNat : Int)) ∧ Below w.heap.size w w'
  upd : ∀ (s : BitVec 32) p len cap xs w, len ≤ 1000000 → Sl w p len cap xs → L w → Calls Try.prog 17 #[.int .u32 (s.toNat : Int), .slice p len cap] w fun e w' => e = .returned (.int .u32 ((crcU s xs).toNat : Int)) ∧ Below w.heap.size w w'
  valid : ∀ (s : BitVec 32) p len cap xs w, len ≤ 1000000 → Sl w p len cap xs → L w → Calls Try.prog 16 #[.slice p len cap, .int .u32 (s.toNat : Int)] w fun e w' => e = .returned (.bool (crcU 0#32 xs == s)) ∧ Below w.heap.size w w'
  neg : ∀ (a b : BitVec 32) (n : Int) w, n < 0 → L w → Calls Try.prog 19 #[.int .u32 (a.toNat : Int), .int .u32 (b.toNat : Int), .int .i64 n] w fun e w' => e = .returned (.tuple #[.int .u32 0, .int .i64 2]) ∧ Below w.heap.size w w'
  comb : ∀ (a b : BitVec 32) (n : Nat) w, n ≤ 9223372036854775807 → L w → Calls Try.prog 19 #[.int .u32 (a.toNat : Int), .int .u32 (b.toNat : Int), .int .i64 n] w fun e w' => e = .returned (.tuple #[.int .u32 ((shf a n ^^^ b).toNat : Int), .int .i64 0]) ∧ Below w.heap.size w w'
  table : ∀ w, L w → Calls Try.prog 21 #[] w fun e w' => e = .returned (.agg crcTab) ∧ Below w.heap.size w w'

/-- A new block that holds just these bytes, marked or not. -/
theorem sl_new_marked (w : World) (l : List Int) (n : Nat) (hn : l.length = n) (hr : ∀ x ∈ l, 0 ≤ x ∧ x < 256) (e : TypeId) (fr : Nat × Nat) : Sl (w.alloc (.cells (l.map (Value.int .u8)).toArray e fr)) (some ⟨w.heap.size, 0, none⟩) n n l := by
  refine ⟨hn, Nat.le_refl _, ?_, (fun h => by cases h), hr⟩
  intro _
  refine ⟨_, 0, rfl, fun i hi => ?_⟩
  have h1 : (w.alloc (.cells (l.map (Value.int .u8)).toArray e fr)).heap[w.heap.size]? = some (.cells (l.map (Value.int .u8)).toArray e fr) := heap_alloc_new w _
  rw [cell_of_row _ _ _ _ _ _ h1, Nat.zero_add]
  simp [List.getD, show i < l.length by omega]

/-- '[]byte' of a constant string. -/
theorem conv_const (w : World) (C : Array Value) (n c : Nat) :
    Sem.run Try.prog (convert 22 22 (.slice (some ⟨w.heap.size, 0, none⟩) n c)) (w.alloc (.cells C 5)) = .ok (.slice (some ⟨w.heap.size, 0, none⟩) n c) (w.alloc (.cells C 5 (C.size, C.size + 1))) :=
  Lib.run_convert_bytes_const w _ _ C n c Try.underlying22 Try.underlying5

/-- A sum of known bytes. -/
theorem CrcOk.sumv {L : World → Prop} (H : CrcOk L) {p : Option Addr} {len cap : Nat} {xs : List Int} {w : World} (v : Int) (hl : len ≤ 1000000) (hS : Sl w p len cap xs) (hL : L w) (hv : ((crcU 0#32 xs).toNat : Int) = v) :
    Calls Try.prog 15 #[.slice p len cap] w fun e w' => e = .returned (.int .u32 v) ∧ L w' ∧ Below w.heap.size w w' :=
  (H.sum p len cap xs w hl hS hL).mono fun e w' ⟨he, hb⟩ => ⟨by rw [he, hv], H.below w w' hL hb, hb⟩

theorem tab_info : (Try.prog.info? 33).map (fun i => (i.zero, i.size)) = some (some (.agg (Array.replicate 256 (.int .u32 0))), 256) := by kernel_rfl

theorem crcTab_size : crcTab.size = 256 := by simp [crcTab]
theorem crcTab_one : crcTab.all (·.oneCell') = true := by
  unfold crcTab
  rw [Array.all_eq_true']
  intro x hx
  simp only [List.mem_toArray, List.mem_map] at hx
  obtain ⟨_, _, rfl⟩ := hx
  rfl
theorem crcTab_get (i : Nat) (h : i < 256) : crcTab[i]? = some (.int .u32 ((feed 0#32 (i : Int)).toNat : Int)) := by
  simp [crcTab, h]

theorem below_then {a b c : World} (h : Below a.heap.size a b) (k : Below b.heap.size b c) : Below a.heap.size a c := h.trans (k.mono h.size)

theorem CrcOk.combv {L : World → Prop} (H : CrcOk L) (A B : BitVec 32) (n : Nat) {w : World} (a b v : Int) (ha : (A.toNat : Int) = a) (hb : (B.toNat : Int) = b) (hn : n ≤ 9223372036854775807) (hL : L w) (hv : ((shf A n ^^^ B).toNat : Int) = v) :
    Calls Try.prog 19 #[.int .u32 a, .int .u32 b, .int .i64 n] w fun e w' => e = .returned (.tuple #[.int .u32 v, .int .i64 0]) ∧ L w' ∧ Below w.heap.size w w' := by
  subst ha hb hv
  exact (H.comb A B n w hn hL).mono fun e w' ⟨he, hb⟩ => ⟨he, H.below w w' hL hb, hb⟩

theorem CrcOk.negv {L : World → Prop} (H : CrcOk L) (A B : BitVec 32) (n : Int) {w : World} (a b : Int) (ha : (A.toNat : Int) = a) (hb : (B.toNat : Int) = b) (hn : n < 0) (hL : L w) :
    Calls Try.prog 19 #[.int .u32 a, .int .u32 b, .int .i64 n] w fun e w' => e = .returned (.tuple #[.int .u32 0, .int .i64 2]) ∧ L w' ∧ Below w.heap.size w w' := by
  subst ha hb
  exact (H.neg A B n w hn hL).mono fun e w' ⟨he, hb⟩ => ⟨he, H.below w w' hL hb, hb⟩

theorem CrcOk.updv {L : World → Prop} (H : CrcOk L) (A : BitVec 32) {p : Option Addr} {len cap : Nat} {xs : List Int} {w : World} (a v : Int) (ha : (A.toNat : Int) = a) (hl : len ≤ 1000000) (hS : Sl w p len cap xs) (hL : L w) (hv : ((crcU A xs).toNat : Int) = v) :
    Calls Try.prog 17 #[.int .u32 a, .slice p len cap] w fun e w' => e = .returned (.int .u32 v) ∧ L w' ∧ Below w.heap.size w w' := by
  subst ha hv
  exact (H.upd A p len cap xs w hl hS hL).mono fun e w' ⟨he, hb⟩ => ⟨he, H.below w w' hL hb, hb⟩

theorem CrcOk.validv {L : World → Prop} (H : CrcOk L) (A : BitVec 32) {p : Option Addr} {len cap : Nat} {xs : List Int} {w : World} (a : Int) (v : Bool) (ha : (A.toNat : Int) = a) (hl : len ≤ 1000000) (hS : Sl w p len cap xs) (hL : L w) (hv : (crcU 0#32 xs == A) = v) :
    Calls Try.prog 16 #[.slice p len cap, .int .u32 a] w fun e w' => e = .returned (.bool v) ∧ L w' ∧ Below w.heap.size w w' := by
  subst ha hv
  exact (H.valid A p len cap xs w hl hS hL).mono fun e w' ⟨he, hb⟩ => ⟨he, H.below w w' hL hb, hb⟩

set_option maxHeartbeats 3200000 in
set_option maxRecDepth 100000 in
theorem works2_any {L : World → Prop} (H : CrcOk L) (w : World) (h : L w) :
    Calls Try.prog 13 #[] w fun e w' => e = .returned (.bool true) ∧ Below w.heap.size w w' := by
  have HL := Lib.hid h
  have HH := Lib.hid H
  clear h H
  have hcv := conv_const
  have HLw := HL
  have HBw := Lib.hid (Below.refl w.heap.size w)
  have hA1 := (Below.refl w.heap.size w).alloc (Nat.le_refl _) (.cells ([49, 50, 51, 52].map (Value.int .u8)).toArray 5 (4, 5))
  have HS1 := Lib.hid (sl_new_marked w [49, 50, 51, 52] 4 rfl (by decide) 5 (4, 5))
  have HL1 := Lib.hid (HH.out.below _ _ HLw.out hA1)
  have HB1 := Lib.hid (below_then HBw.out hA1)
  clear hA1 HLw HBw
  go_enter Try.func13, Try.ntmps13
  go_wp2_with fail
  refine (HH.out.sumv 2615402659 (by decide) HS1.out HL1.out (by decide)).mono ?_
  rintro e w1 ⟨rfl, hl, hb⟩
  have HLw := Lib.hid hl
  have HBw := Lib.hid (below_then HB1.out hb)
  clear hl hb HS1 HL1 HB1
  have hA2 := (Below.refl w1.heap.size w1).alloc (Nat.le_refl _) (.cells ([53, 54, 55, 56, 57].map (Value.int .u8)).toArray 5 (5, 6))
  have HS2 := Lib.hid (sl_new_marked w1 [53, 54, 55, 56, 57] 5 rfl (by decide) 5 (5, 6))
  have HL2 := Lib.hid (HH.out.below _ _ HLw.out hA2)
  have HB2 := Lib.hid (below_then HBw.out hA2)
  clear hA2 HLw HBw
  go_wp2_with fail
  refine (HH.out.sumv 320708720 (by decide) HS2.out HL2.out (by decide)).mono ?_
  rintro e w2 ⟨rfl, hl, hb⟩
  have HLw := Lib.hid hl
  have HBw := Lib.hid (below_then HB2.out hb)
  clear hl hb HS2 HL2 HB2
  go_wp2_with fail
  refine (HH.out.combv 2615402659#32 320708720#32 5 2615402659 320708720 3421780262 (by decide) (by decide) (by decide) HLw.out (by decide)).mono ?_
  rintro e w3 ⟨rfl, hl, hb⟩
  have HL3 := Lib.hid hl
  have HB3 := Lib.hid (below_then HBw.out hb)
  clear hl hb HLw HBw
  go_wp2_with fail
  refine (HH.out.negv 1#32 2#32 (-1) 1 2 (by decide) (by decide) (by decide) HL3.out).mono ?_
  rintro e w4 ⟨rfl, hl, hb⟩
  have HL4 := Lib.hid hl
  have HB4 := Lib.hid (below_then HB3.out hb)
  clear hl hb HL3 HB3
  go_wp2_with fail
  have HTb := HH.out.table _ HL4.out
  have htbs := crcTab_size
  have htb1 := crcTab_one
  have htbg := crcTab_get 1 (by decide)
  rw [show ((feed 0#32 ((1 : Nat) : Int)).toNat : Int) = 1996959894 from by decide] at htbg
  generalize crcTab = tb at *
  refine HTb.mono ?_
  rintro e w5 ⟨rfl, hb⟩
  have HL5 := Lib.hid (HH.out.below _ _ HL4.out hb)
  have HB5 := Lib.hid (below_then HB4.out hb)
  clear hb HL4 HB4 HTb
  obtain ⟨hz, hzi⟩ := zero_of_info tab_info
  have hzss : (Array.replicate 256 (Value.int .u32 0)).size = 256 := Array.size_replicate
  generalize Array.replicate 256 (Value.int .u32 0) = zs at *
  have hst := run_storeCells_new w5 33 zs tb (by rw [hzi, htbs]) (by rw [hzss, htbs]) htb1
  have hrow : (w5.alloc (.cells tb 33)).heap[w5.heap.size]? = some (.cells tb 33) := heap_alloc_last w5 _
  have hcell : (w5.alloc (.cells tb 33)).cell? ⟨w5.heap.size, 1, none⟩ = some (.int .u32 1996959894) := by
    rw [cell_of_row _ _ 1 _ _ _ hrow]; exact htbg
  have hA6 := (Below.refl w5.heap.size w5).alloc (Nat.le_refl _) (.cells tb 33)
  have HL6 := Lib.hid (HH.out.below _ _ HL5.out hA6)
  have HB6 := Lib.hid (below_then HB5.out hA6)
  have HC6 := Lib.hid hcell
  clear hrow htb1 htbg hzss hA6 HL5 HB5 hcell
  go_wp2_with fail
  refine (HH.out.sumv 0 (by decide) (sl_nil _) HL6.out (by decide)).mono ?_
  rintro e w6 ⟨rfl, hl, hb⟩
  have HLw := Lib.hid hl
  have HBw := Lib.hid (below_then HB6.out hb)
  have HCw := Lib.hid ((hb.cell (p := ⟨w5.heap.size, 1, none⟩) (World.block_lt_of_cell? _ _ HC6.out)).trans HC6.out)
  clear hl hb HL6 HB6 HC6
  clear hst hz hzi htbs
  have hA7 := (Below.refl w6.heap.size w6).alloc (Nat.le_refl _) (.cells ([49, 50, 51, 52, 53, 54, 55, 56, 57].map (Value.int .u8)).toArray 5 (9, 10))
  have HS7 := Lib.hid (sl_new_marked w6 [49, 50, 51, 52, 53, 54, 55, 56, 57] 9 rfl (by decide) 5 (9, 10))
  have HL7 := Lib.hid (HH.out.below _ _ HLw.out hA7)
  have HB7 := Lib.hid (below_then HBw.out hA7)
  have HC7 := Lib.hid ((hA7.cell (p := ⟨w5.heap.size, 1, none⟩) (World.block_lt_of_cell? _ _ HCw.out)).trans HCw.out)
  clear hA7 HLw HBw HCw
  go_wp2_with fail
  refine (HH.out.sumv 3421780262 (by decide) HS7.out HL7.out (by decide)).mono ?_
  rintro e w7 ⟨rfl, hl, hb⟩
  have HLw := Lib.hid hl
  have HBw := Lib.hid (below_then HB7.out hb)
  have HCw := Lib.hid ((hb.cell (p := ⟨w5.heap.size, 1, none⟩) (World.block_lt_of_cell? _ _ HC7.out)).trans HC7.out)
  clear hl hb HL7 HB7 HC7
  clear HS7
  have hA8 := (Below.refl w7.heap.size w7).alloc (Nat.le_refl _) (.cells ([0].map (Value.int .u8)).toArray 5 (0, 0))
  have HS8 := Lib.hid (sl_new_marked w7 [0] 1 rfl (by decide) 5 (0, 0))
  have HL8 := Lib.hid (HH.out.below _ _ HLw.out hA8)
  have HB8 := Lib.hid (below_then HBw.out hA8)
  have HC8 := Lib.hid ((hA8.cell (p := ⟨w5.heap.size, 1, none⟩) (World.block_lt_of_cell? _ _ HCw.out)).trans HCw.out)
  clear hA8 HLw HBw HCw
  go_wp2_with fail
  refine (HH.out.sumv 3523407757 (by decide) HS8.out HL8.out (by decide)).mono ?_
  rintro e w8 ⟨rfl, hl, hb⟩
  have HLw := Lib.hid hl
  have HBw := Lib.hid (below_then HB8.out hb)
  have HCw := Lib.hid ((hb.cell (p := ⟨w5.heap.size, 1, none⟩) (World.block_lt_of_cell? _ _ HC8.out)).trans HC8.out)
  clear hl hb HL8 HB8 HC8
  clear HS8
  have hA9 := (Below.refl w8.heap.size w8).alloc (Nat.le_refl _) (.cells ([49, 50, 51, 52].map (Value.int .u8)).toArray 5 (4, 5))
  have HS9 := Lib.hid (sl_new_marked w8 [49, 50, 51, 52] 4 rfl (by decide) 5 (4, 5))
  have HL9 := Lib.hid (HH.out.below _ _ HLw.out hA9)
  have HB9 := Lib.hid (below_then HBw.out hA9)
  have HC9 := Lib.hid ((hA9.cell (p := ⟨w5.heap.size, 1, none⟩) (World.block_lt_of_cell? _ _ HCw.out)).trans HCw.out)
  clear hA9 HLw HBw HCw
  go_wp2_with fail
  refine (HH.out.sumv 2615402659 (by decide) HS9.out HL9.out (by decide)).mono ?_
  rintro e w9 ⟨rfl, hl, hb⟩
  have HLw := Lib.hid hl
  have HBw := Lib.hid (below_then HB9.out hb)
  have HCw := Lib.hid ((hb.cell (p := ⟨w5.heap.size, 1, none⟩) (World.block_lt_of_cell? _ _ HC9.out)).trans HC9.out)
  clear hl hb HL9 HB9 HC9
  clear HS9
  have hA10 := (Below.refl w9.heap.size w9).alloc (Nat.le_refl _) (.cells ([53, 54, 55, 56, 57].map (Value.int .u8)).toArray 5 (5, 6))
  have HS10 := Lib.hid (sl_new_marked w9 [53, 54, 55, 56, 57] 5 rfl (by decide) 5 (5, 6))
  have HL10 := Lib.hid (HH.out.below _ _ HLw.out hA10)
  have HB10 := Lib.hid (below_then HBw.out hA10)
  have HC10 := Lib.hid ((hA10.cell (p := ⟨w5.heap.size, 1, none⟩) (World.block_lt_of_cell? _ _ HCw.out)).trans HCw.out)
  clear hA10 HLw HBw HCw
  go_wp2_with fail
  refine (HH.out.updv 2615402659#32 2615402659 3421780262 (by decide) (by decide) HS10.out HL10.out (by decide)).mono ?_
  rintro e w10 ⟨rfl, hl, hb⟩
  have HLw := Lib.hid hl
  have HBw := Lib.hid (below_then HB10.out hb)
  have HCw := Lib.hid ((hb.cell (p := ⟨w5.heap.size, 1, none⟩) (World.block_lt_of_cell? _ _ HC10.out)).trans HC10.out)
  clear hl hb HL10 HB10 HC10
  clear HS10
  have hcell := HCw.out
  have hA11 := (Below.refl w10.heap.size w10).alloc (Nat.le_refl _) (.cells ([49, 50, 51, 52, 53, 54, 55, 56, 57].map (Value.int .u8)).toArray 5 (9, 10))
  have HS11 := Lib.hid (sl_new_marked w10 [49, 50, 51, 52, 53, 54, 55, 56, 57] 9 rfl (by decide) 5 (9, 10))
  have HL11 := Lib.hid (HH.out.below _ _ HLw.out hA11)
  have HB11 := Lib.hid (below_then HBw.out hA11)
  have HC11 := Lib.hid ((hA11.cell (p := ⟨w5.heap.size, 1, none⟩) (World.block_lt_of_cell? _ _ HCw.out)).trans HCw.out)
  clear hA11 HLw HBw HCw
  go_wp2_with fail
  refine (HH.out.validv 3421780262#32 3421780262 true (by decide) (by decide) HS11.out HL11.out (by decide)).mono ?_
  rintro e w11 ⟨rfl, hl, hb⟩
  have HLw := Lib.hid hl
  have HBw := Lib.hid (below_then HB11.out hb)
  have HCw := Lib.hid ((hb.cell (p := ⟨w5.heap.size, 1, none⟩) (World.block_lt_of_cell? _ _ HC11.out)).trans HC11.out)
  clear hl hb HL11 HB11 HC11
  go_wp2_with fail
  go_ret
  exact ⟨rfl, HBw.out⟩
end Go.Proofs.Ytdjpoffanfgmmaa
