/- SlotsetKnown. -/
import Derived.Test.YtejkbanecbjdoaaSsHas
namespace Go.Proofs.Ytejkbanecbjdoaa
open Go Go.RowKit

attribute [local go_sem] Oper.semAt_some

theorem rd_list (W : World) (zs : List Nat) (t : TypeId) : RdN (W.alloc (.cells (zs.map fun x => Value.int .i64 (x : Nat)).toArray t)) (some ⟨W.heap.size, 0, none⟩) zs := fun j z hz => by
  have hn := heap_alloc_new W (.cells (zs.map fun x => Value.int .i64 ((x : Nat) : Int)).toArray t)
  refine ⟨W.heap.size, 0, rfl, by simp, ?_⟩
  unfold World.cell?
  rw [hn]
  show (zs.map fun x => Value.int .i64 ((x : Nat) : Int)).toArray[0 + j]? = _
  simp [hz]

theorem set_list (n : Nat) (h1 : 1 ≤ n) (h34 : n ≤ 34) (zs : List Nat) (hz : ∀ z ∈ zs, z < n) (hl : zs.length ≤ 1000000) (W : World) :
    Calls Try.prog 35 #[.int .i64 (n : Nat), .slice (some ⟨W.heap.size, 0, none⟩) zs.length zs.length] (W.alloc (.cells (zs.map fun x => Value.int .i64 (x : Nat)).toArray 3)) fun e w' => e = .returned (.pointer (some ⟨W.heap.size + 1, 0, none⟩)) ∧ SetAt w' (W.heap.size + 1) n (inL zs) ∧ Below W.heap.size W w' := by
  have hA : Below W.heap.size W (W.alloc (.cells (zs.map fun x => Value.int .i64 ((x : Nat) : Int)).toArray 3)) := (Below.refl _ _).alloc (Nat.le_refl _) _
  refine (setS n h1 h34 _ zs.length zs.length zs rfl hl hz _ (rd_list W zs _)).mono ?_
  rintro e w' ⟨he, hS, hb⟩
  rw [World.size_alloc] at he hS
  exact ⟨he, hS, hA.trans (hb.mono hA.size)⟩

theorem same_list {b n : Nat} {f : Nat → Bool} (W : World) (h : SetAt W b n f) (zs : List Nat) (he : els n f = zs) :
    Calls Try.prog 33 #[.pointer (some ⟨b, 0, none⟩), .slice (some ⟨W.heap.size, 0, none⟩) zs.length zs.length] (W.alloc (.cells (zs.map fun x => Value.int .i64 (x : Nat)).toArray 3)) fun e w' => e = .returned (.bool true) ∧ Below W.heap.size W w' := by
  have hA : Below W.heap.size W (W.alloc (.cells (zs.map fun x => Value.int .i64 ((x : Nat) : Int)).toArray 3)) := (Below.refl _ _).alloc (Nat.le_refl _) _
  refine (sameS (c := zs.length) _ (h.below hA) (by rw [he]; exact rd_list W zs _) (by rw [he])).mono ?_
  rintro e w' ⟨he, hb⟩
  exact ⟨he, hA.trans (hb.mono hA.size)⟩

set_option maxHeartbeats 4000000 in
set_option maxRecDepth 100000 in
theorem known_any (W : World) : Calls Try.prog 11 #[] W fun e w' => e = .returned (.bool true) ∧ Below W.heap.size W w' := by
  have hset := set_list 34 (by decide) (by decide) [0, 33, 17] (by decide) (by decide) W
  go_enter Try.func11, Try.ntmps11
  go_wp2_with fail
  refine hset.mono ?_
  rintro e W1 ⟨rfl, hS, hb⟩
  clear hset
  have HS := Lib.hid hS
  have HB := Lib.hid hb
  clear hS hb
  go_wp2_with fail
  refine (newBadS _ 0 (by decide)).mono ?_
  rintro e W2 ⟨rfl, hw⟩
  have hw2 := hw.symm
  subst hw2
  clear hw
  go_wp2_with fail
  refine (newBadS _ 35 (by decide)).mono ?_
  rintro e W3 ⟨rfl, hw⟩
  have hw2 := hw.symm
  subst hw2
  clear hw
  go_wp2_with fail
  refine (setS 1 (by decide) (by decide) none 0 0 [] rfl (by decide) (by simp) _ (RdN.nil _ none)).mono ?_
  rintro e W4 ⟨rfl, hO, hb2⟩
  have hO0 := HB.out.size
  have HO := Lib.hid hO
  clear hO
  have hS := HS.out.below hb2
  have hb := HB.out.trans (hb2.mono HB.out.size)
  clear HS HB hb2
  have HS := Lib.hid hS
  have HB := Lib.hid hb
  clear hS hb
  go_wp2_with fail
  refine (same_list _ HS.out [0, 17, 33] (by decide)).mono ?_
  rintro e W5 ⟨rfl, hb2⟩
  have hS := HS.out.below hb2
  have hO := HO.out.below hb2
  have hb := HB.out.trans (hb2.mono HB.out.size)
  clear HS HB hb2 HO
  have HS := Lib.hid hS
  have HB := Lib.hid hb
  have HO := Lib.hid hO
  clear hO
  clear hS hb
  go_wp2_with fail
  refine (addOutS HS.out 34 (by decide)).mono ?_
  rintro e W6 ⟨rfl, hw⟩
  have hw2 := hw.symm
  subst hw2
  clear hw
  go_wp2_with fail
  refine (addOutS HS.out (-1) (by decide)).mono ?_
  rintro e W7 ⟨rfl, hw⟩
  have hw2 := hw.symm
  subst hw2
  clear hw
  go_wp2_with fail
  refine (next_to 18 _ HS.out 33 true (by decide) (by decide)).mono ?_
  rintro e W8 ⟨rfl, hb2⟩
  have hS := HS.out.below hb2
  have hO := HO.out.below hb2
  have hb := HB.out.trans (hb2.mono HB.out.size)
  clear HS HB hb2 HO
  have HS := Lib.hid hS
  have HB := Lib.hid hb
  have HO := Lib.hid hO
  clear hO
  clear hS hb
  go_wp2_with fail
  refine (next_to 34 _ HS.out 0 false (by decide) (by decide)).mono ?_
  rintro e W9 ⟨rfl, hb2⟩
  have hS := HS.out.below hb2
  have hO := HO.out.below hb2
  have hb := HB.out.trans (hb2.mono HB.out.size)
  clear HS HB hb2 HO
  have HS := Lib.hid hS
  have HB := Lib.hid hb
  have HO := Lib.hid hO
  clear hO
  clear hS hb
  go_wp2_with fail
  refine (next_to (-9223372036854775808) _ HS.out 0 true (by decide) (by decide)).mono ?_
  rintro e W10 ⟨rfl, hb2⟩
  have hS := HS.out.below hb2
  have hO := HO.out.below hb2
  have hb := HB.out.trans (hb2.mono HB.out.size)
  clear HS HB hb2 HO
  have HS := Lib.hid hS
  have HB := Lib.hid hb
  have HO := Lib.hid hO
  clear hO
  clear hS hb
  go_wp2_with fail
  refine (addS HO.out 0 (by decide)).mono ?_
  rintro e W11 ⟨rfl, hO, ho⟩
  replace hO := hO.congr (g := inL [0]) (by decide)
  have hb := HB.out.trans (ho.below (by omega) HB.out.size)
  clear HS HB HO ho
  have HO := Lib.hid hO
  have HB := Lib.hid hb
  clear hO hb
  go_wp2_with fail
  refine (addOutS HO.out 1 (by decide)).mono ?_
  rintro e W12 ⟨rfl, hw⟩
  have hw2 := hw.symm
  subst hw2
  clear hw
  go_wp2_with fail
  refine (same_list _ HO.out [0] (by decide)).mono ?_
  rintro e W13 ⟨rfl, hb2⟩
  have hb := HB.out.trans (hb2.mono HB.out.size)
  clear HO HB hb2
  have HB := Lib.hid hb
  clear hb
  go_wp2_with fail
  refine (works8_any _).mono ?_
  rintro e W14 ⟨rfl, hb2⟩
  have hb := HB.out.trans (hb2.mono HB.out.size)
  clear HB hb2
  have HB := Lib.hid hb
  clear hb
  go_wp2_with fail
  go_ret
  exact ⟨rfl, HB.out⟩
end Go.Proofs.Ytejkbanecbjdoaa
