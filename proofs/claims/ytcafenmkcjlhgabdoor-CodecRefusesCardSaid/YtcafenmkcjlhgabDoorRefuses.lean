/- CodecRefuses: the walk. -/
import Derived.Test.YtcafenmkcjlhgabDoorWorks
import Derived.OpenShut
namespace Go.Proofs.YtcafenmkcjlhgabDoor
open Go Go.RowKit

def zeros20 : Array Value := #[.int .u8 0, .int .u8 0, .int .u8 0, .int .u8 0, .int .u8 0, .int .u8 0, .int .u8 0, .int .u8 0, .int .u8 0, .int .u8 0, .int .u8 0, .int .u8 0, .int .u8 0, .int .u8 0, .int .u8 0, .int .u8 0, .int .u8 0, .int .u8 0, .int .u8 0, .int .u8 0]

set_option maxHeartbeats 3200000 in
set_option maxRecDepth 100000 in
theorem refuses_else (m n a : Int) (w : World) (h : Laid w) (hm : isW m = false) (ha0 : 0 ≤ a) (ha1 : a < 65536) :
    Calls Tryd.prog 5 #[.int .i64 m, .int .u64 n, .int .u16 a] w fun e w' => e = .returned (.bool true) ∧ Below w.heap.size w w' := by
  have hmk : ∀ w, (Instr.makeSlice 22 (.int .i64 20) (.int .i64 20)).run Tryd.prog w = .ok (.slice (some ⟨w.heap.size, 0, none⟩) 20 20) (w.alloc (.cells zeros20 5)) := fun _ => by kernel_rfl
  have h1 : (m == 1) = false := by cases hb : (m == 1) <;> simp_all [isW]
  have h2 : (m == 2) = false := by cases hb : (m == 2) <;> simp_all [isW]
  have h4 : (m == 4) = false := by cases hb : (m == 4) <;> simp_all [isW]
  have h8 : (m == 8) = false := by cases hb : (m == 8) <;> simp_all [isW]
  have hf : fitsI n m = false := by simp [fitsI, hm]
  have HM := Lib.hid hm
  have HF := Lib.hid hf
  have HL := Lib.hid h
  clear h hm hf
  have hb1 : Below w.heap.size w (w.alloc (.cells #[.int .u8 1] 5)) := (Below.refl _ _).alloc (Nat.le_refl _) _
  have hb2 := hb1.alloc hb1.size (.cells zeros20 5)
  have hb3 := hb2.alloc hb2.size (.cells zeros20 5)
  have HB3 := Lib.hid hb3
  have HL1 := Lib.hid (HL.out.below hb1)
  have HL2 := Lib.hid (HL.out.below hb2)
  have HL3 := Lib.hid (HL.out.below hb3)
  clear hb1 hb2 hb3
  go_enter Tryd.func5, Tryd.ntmps5
  go_wp2_with fail
  refine (Append_arg _ n m _ HL1.out.wt HM.out).mono ?_
  rintro e w1 ⟨rfl, rfl⟩
  go_wp2_with fail
  refine (Uint_arg _ _ m _ HL2.out.wt HM.out).mono ?_
  rintro e w1 ⟨rfl, rfl⟩
  go_wp2_with fail
  refine (Uint_range _ _ 4 _ HL3.out.wt (by decide) (by omega)).mono ?_
  rintro e w1 ⟨rfl, rfl⟩
  go_wp2_with fail
  refine (Fits_any n m _ HL3.out.wt).mono ?_
  rw [HF.out]
  rintro e w1 ⟨rfl, rfl⟩
  go_wp2_with fail
  refine (works_any _ HL3.out).mono ?_
  rintro e w1 ⟨rfl, hb⟩
  go_wp2_with fail
  go_ret
  exact ⟨rfl, HB3.out.trans (hb.mono HB3.out.size)⟩

set_option maxHeartbeats 3200000 in
set_option maxRecDepth 100000 in
theorem refuses_1 (n a : Int) (w : World) (h : Laid w) (ha0 : 0 ≤ a) (ha1 : a < 65536) :
    Calls Tryd.prog 5 #[.int .i64 1, .int .u64 n, .int .u16 a] w fun e w' => e = .returned (.bool true) ∧ Below w.heap.size w w' := by
  have hmk : ∀ w, (Instr.makeSlice 22 (.int .i64 20) (.int .i64 20)).run Tryd.prog w = .ok (.slice (some ⟨w.heap.size, 0, none⟩) 20 20) (w.alloc (.cells zeros20 5)) := fun _ => by kernel_rfl
  have hm : isW 3 = false := by decide
  have hf : fitsI n 3 = false := by simp [fitsI, hm]
  have HM := Lib.hid hm
  have HF := Lib.hid hf
  have HL := Lib.hid h
  clear h hm hf
  have hb1 : Below w.heap.size w (w.alloc (.cells #[.int .u8 1] 5)) := (Below.refl _ _).alloc (Nat.le_refl _) _
  have hb2 := hb1.alloc hb1.size (.cells zeros20 5)
  have hb3 := hb2.alloc hb2.size (.cells zeros20 5)
  have HB3 := Lib.hid hb3
  have HL1 := Lib.hid (HL.out.below hb1)
  have HL2 := Lib.hid (HL.out.below hb2)
  have HL3 := Lib.hid (HL.out.below hb3)
  clear hb1 hb2 hb3
  go_enter Tryd.func5, Tryd.ntmps5
  go_wp2_with fail
  refine (Append_arg _ n 3 _ HL1.out.wt HM.out).mono ?_
  rintro e w1 ⟨rfl, rfl⟩
  go_wp2_with fail
  refine (Uint_arg _ _ 3 _ HL2.out.wt HM.out).mono ?_
  rintro e w1 ⟨rfl, rfl⟩
  go_wp2_with fail
  refine (Uint_range _ _ 4 _ HL3.out.wt (by decide) (by omega)).mono ?_
  rintro e w1 ⟨rfl, rfl⟩
  go_wp2_with fail
  refine (Fits_any n 3 _ HL3.out.wt).mono ?_
  rw [HF.out]
  rintro e w1 ⟨rfl, rfl⟩
  go_wp2_with fail
  refine (works_any _ HL3.out).mono ?_
  rintro e w1 ⟨rfl, hb⟩
  go_wp2_with fail
  go_ret
  exact ⟨rfl, HB3.out.trans (hb.mono HB3.out.size)⟩

set_option maxHeartbeats 3200000 in
set_option maxRecDepth 100000 in
theorem refuses_2 (n a : Int) (w : World) (h : Laid w) (ha0 : 0 ≤ a) (ha1 : a < 65536) :
    Calls Tryd.prog 5 #[.int .i64 2, .int .u64 n, .int .u16 a] w fun e w' => e = .returned (.bool true) ∧ Below w.heap.size w w' := by
  have hmk : ∀ w, (Instr.makeSlice 22 (.int .i64 20) (.int .i64 20)).run Tryd.prog w = .ok (.slice (some ⟨w.heap.size, 0, none⟩) 20 20) (w.alloc (.cells zeros20 5)) := fun _ => by kernel_rfl
  have hm : isW 3 = false := by decide
  have hf : fitsI n 3 = false := by simp [fitsI, hm]
  have HM := Lib.hid hm
  have HF := Lib.hid hf
  have HL := Lib.hid h
  clear h hm hf
  have hb1 : Below w.heap.size w (w.alloc (.cells #[.int .u8 1] 5)) := (Below.refl _ _).alloc (Nat.le_refl _) _
  have hb2 := hb1.alloc hb1.size (.cells zeros20 5)
  have hb3 := hb2.alloc hb2.size (.cells zeros20 5)
  have HB3 := Lib.hid hb3
  have HL1 := Lib.hid (HL.out.below hb1)
  have HL2 := Lib.hid (HL.out.below hb2)
  have HL3 := Lib.hid (HL.out.below hb3)
  clear hb1 hb2 hb3
  go_enter Tryd.func5, Tryd.ntmps5
  go_wp2_with fail
  refine (Append_arg _ n 3 _ HL1.out.wt HM.out).mono ?_
  rintro e w1 ⟨rfl, rfl⟩
  go_wp2_with fail
  refine (Uint_arg _ _ 3 _ HL2.out.wt HM.out).mono ?_
  rintro e w1 ⟨rfl, rfl⟩
  go_wp2_with fail
  refine (Uint_range _ _ 4 _ HL3.out.wt (by decide) (by omega)).mono ?_
  rintro e w1 ⟨rfl, rfl⟩
  go_wp2_with fail
  refine (Fits_any n 3 _ HL3.out.wt).mono ?_
  rw [HF.out]
  rintro e w1 ⟨rfl, rfl⟩
  go_wp2_with fail
  refine (works_any _ HL3.out).mono ?_
  rintro e w1 ⟨rfl, hb⟩
  go_wp2_with fail
  go_ret
  exact ⟨rfl, HB3.out.trans (hb.mono HB3.out.size)⟩

set_option maxHeartbeats 3200000 in
set_option maxRecDepth 100000 in
theorem refuses_4 (n a : Int) (w : World) (h : Laid w) (ha0 : 0 ≤ a) (ha1 : a < 65536) :
    Calls Tryd.prog 5 #[.int .i64 4, .int .u64 n, .int .u16 a] w fun e w' => e = .returned (.bool true) ∧ Below w.heap.size w w' := by
  have hmk : ∀ w, (Instr.makeSlice 22 (.int .i64 20) (.int .i64 20)).run Tryd.prog w = .ok (.slice (some ⟨w.heap.size, 0, none⟩) 20 20) (w.alloc (.cells zeros20 5)) := fun _ => by kernel_rfl
  have hm : isW 5 = false := by decide
  have hf : fitsI n 5 = false := by simp [fitsI, hm]
  have HM := Lib.hid hm
  have HF := Lib.hid hf
  have HL := Lib.hid h
  clear h hm hf
  have hb1 : Below w.heap.size w (w.alloc (.cells #[.int .u8 1] 5)) := (Below.refl _ _).alloc (Nat.le_refl _) _
  have hb2 := hb1.alloc hb1.size (.cells zeros20 5)
  have hb3 := hb2.alloc hb2.size (.cells zeros20 5)
  have HB3 := Lib.hid hb3
  have HL1 := Lib.hid (HL.out.below hb1)
  have HL2 := Lib.hid (HL.out.below hb2)
  have HL3 := Lib.hid (HL.out.below hb3)
  clear hb1 hb2 hb3
  go_enter Tryd.func5, Tryd.ntmps5
  go_wp2_with fail
  refine (Append_arg _ n 5 _ HL1.out.wt HM.out).mono ?_
  rintro e w1 ⟨rfl, rfl⟩
  go_wp2_with fail
  refine (Uint_arg _ _ 5 _ HL2.out.wt HM.out).mono ?_
  rintro e w1 ⟨rfl, rfl⟩
  go_wp2_with fail
  refine (Uint_range _ _ 4 _ HL3.out.wt (by decide) (by omega)).mono ?_
  rintro e w1 ⟨rfl, rfl⟩
  go_wp2_with fail
  refine (Fits_any n 5 _ HL3.out.wt).mono ?_
  rw [HF.out]
  rintro e w1 ⟨rfl, rfl⟩
  go_wp2_with fail
  refine (works_any _ HL3.out).mono ?_
  rintro e w1 ⟨rfl, hb⟩
  go_wp2_with fail
  go_ret
  exact ⟨rfl, HB3.out.trans (hb.mono HB3.out.size)⟩

set_option maxHeartbeats 3200000 in
set_option maxRecDepth 100000 in
theorem refuses_8 (n a : Int) (w : World) (h : Laid w) (ha0 : 0 ≤ a) (ha1 : a < 65536) :
    Calls Tryd.prog 5 #[.int .i64 8, .int .u64 n, .int .u16 a] w fun e w' => e = .returned (.bool true) ∧ Below w.heap.size w w' := by
  have hmk : ∀ w, (Instr.makeSlice 22 (.int .i64 20) (.int .i64 20)).run Tryd.prog w = .ok (.slice (some ⟨w.heap.size, 0, none⟩) 20 20) (w.alloc (.cells zeros20 5)) := fun _ => by kernel_rfl
  have hm : isW 9 = false := by decide
  have hf : fitsI n 9 = false := by simp [fitsI, hm]
  have HM := Lib.hid hm
  have HF := Lib.hid hf
  have HL := Lib.hid h
  clear h hm hf
  have hb1 : Below w.heap.size w (w.alloc (.cells #[.int .u8 1] 5)) := (Below.refl _ _).alloc (Nat.le_refl _) _
  have hb2 := hb1.alloc hb1.size (.cells zeros20 5)
  have hb3 := hb2.alloc hb2.size (.cells zeros20 5)
  have HB3 := Lib.hid hb3
  have HL1 := Lib.hid (HL.out.below hb1)
  have HL2 := Lib.hid (HL.out.below hb2)
  have HL3 := Lib.hid (HL.out.below hb3)
  clear hb1 hb2 hb3
  go_enter Tryd.func5, Tryd.ntmps5
  go_wp2_with fail
  refine (Append_arg _ n 9 _ HL1.out.wt HM.out).mono ?_
  rintro e w1 ⟨rfl, rfl⟩
  go_wp2_with fail
  refine (Uint_arg _ _ 9 _ HL2.out.wt HM.out).mono ?_
  rintro e w1 ⟨rfl, rfl⟩
  go_wp2_with fail
  refine (Uint_range _ _ 4 _ HL3.out.wt (by decide) (by omega)).mono ?_
  rintro e w1 ⟨rfl, rfl⟩
  go_wp2_with fail
  refine (Fits_any n 9 _ HL3.out.wt).mono ?_
  rw [HF.out]
  rintro e w1 ⟨rfl, rfl⟩
  go_wp2_with fail
  refine (works_any _ HL3.out).mono ?_
  rintro e w1 ⟨rfl, hb⟩
  go_wp2_with fail
  go_ret
  exact ⟨rfl, HB3.out.trans (hb.mono HB3.out.size)⟩

theorem refuses_any (m n a : Int) (w : World) (h : Laid w) (ha0 : 0 ≤ a) (ha1 : a < 65536) :
    Calls Tryd.prog 5 #[.int .i64 m, .int .u64 n, .int .u16 a] w fun e w' => e = .returned (.bool true) ∧ Below w.heap.size w w' := by
  by_cases hm : isW m = true
  · rcases isW_cases hm with rfl | rfl | rfl | rfl
    · exact refuses_1 n a w h ha0 ha1
    · exact refuses_2 n a w h ha0 ha1
    · exact refuses_4 n a w h ha0 ha1
    · exact refuses_8 n a w h ha0 ha1
  · exact refuses_else m n a w h (by simpa using hm) ha0 ha1

theorem refuses_law (m n a : Int) (w : World) (h : Laid w) (_ : (Lit.int .i64 m).wf = true) (_ : (Lit.int .u64 n).wf = true) (w2 : (Lit.int .u16 a).wf = true) :
    Calls Tryd.prog 5 #[.int .i64 m, .int .u64 n, .int .u16 a] w fun e w' => e = .returned (.bool true) ∧ Below w.heap.size w w' := by
  have hb := bounds_u16 w2
  exact refuses_any m n a w h (by omega) (by omega)
end Go.Proofs.YtcafenmkcjlhgabDoor
