/- set, and the chapter's examples. -/
import Derived.Test.YtejkbanecbjdoaaSsSame
namespace Go.Proofs.Ytejkbanecbjdoaa
open Go Go.RowKit

attribute [local go_sem] Oper.semAt_some

/-- The members of a list. -/
def inL (zs : List Nat) (k : Nat) : Bool := zs.contains k

theorem inL_snoc (zs : List Nat) (x : Nat) : updB (inL zs) x true = inL (zs ++ [x]) := by
  funext k
  unfold updB inL
  by_cases h : k = x <;> simp [h, List.contains_eq_mem, List.mem_append]

set_option maxHeartbeats 2000000 in
set_option maxRecDepth 100000 in
theorem setS (n : Nat) (h1 : 1 ≤ n) (h34 : n ≤ 34) (p : Option Addr) (len c : Nat) (zs : List Nat) (hlen : zs.length = len) (hc : len ≤ 1000000) (hz : ∀ z ∈ zs, z < n) (W : World) (hR : RdN W p zs) :
    Calls Try.prog 35 #[.int .i64 (n : Nat), .slice p len c] W fun e w' => e = .returned (.pointer (some ⟨W.heap.size, 0, none⟩)) ∧ SetAt w' W.heap.size n (inL zs) ∧ Below W.heap.size W w' := by
  have hnew := newS W n h1 h34
  have HR := Lib.hid hR
  have HZ := Lib.hid hz
  have HL := Lib.hid hlen
  clear hR hz hlen
  go_enter Try.func35, Try.ntmps35
  go_wp2_with fail
  refine hnew.mono ?_
  rintro e W1 ⟨rfl, hS1, hb1, hsz1⟩
  have HS1 := Lib.hid hS1
  have HB1 := Lib.hid hb1
  have HZ1 := Lib.hid hsz1
  clear hS1 hb1 hsz1 hnew
  go_wp2_with fail
  go_loopw [7] (fun i wr => ∃ k : Nat, k ≤ len ∧ i = .int .i64 k ∧ SetAt wr W.heap.size n (inL (zs.take k)) ∧ Below W.heap.size W wr) (fun i _ => len - (intOf i).toNat)
  case atStart => exact ⟨0, Nat.zero_le _, rfl, HS1.out, HB1.out⟩
  case round =>
    obtain ⟨k, hk, rfl, hS, hb⟩ := hrel
    by_cases hlt : k < len
    · obtain ⟨z, hz⟩ : ∃ z, zs[k]? = some z := ⟨_, List.getElem?_eq_getElem (by rw [HL.out]; exact hlt)⟩
      have hzn := HZ.out z (List.mem_of_getElem? hz)
      obtain ⟨g, o, rfl, hg, hcell⟩ := (HR.out.below hb) k z hz
      have hadd := addS hS z hzn
      rw [inL_snoc, ← takeSucc hz] at hadd
      have HA := Lib.hid hadd
      have HB := Lib.hid hb
      have h0 : (0 : Int) ≤ (k : Int) := by omega
      have hk1 : (k : Int) < (len : Int) := by omega
      clear hadd hb hS hz hzn
      go_wp2_with fail
      refine HA.out.mono ?_
      rintro e W2 ⟨rfl, hS2, ho2⟩
      have HS2 := Lib.hid hS2
      have HO2 := Lib.hid ho2
      clear hS2 ho2
      go_wp2_with fail
      go_roundw
      case rel => exact ⟨k + 1, by omega, by simp, HS2.out, HB.out.trans (HO2.out.below (Nat.le_refl _) HB.out.size)⟩
      case measure => simp [intOf]; omega
    · obtain rfl : k = len := by omega
      rw [List.take_of_length_le (by rw [HL.out]; exact Nat.le_refl _)] at hS
      have HSf := Lib.hid hS
      have HBf := Lib.hid hb
      clear hS hb
      go_wp2_with fail
      go_ret
      exact ⟨rfl, HSf.out, HBf.out⟩

theorem rd_two (W : World) (x y : Nat) (t : TypeId) : RdN (W.alloc (.cells #[.int .i64 (x : Nat), .int .i64 (y : Nat)] t)) (some ⟨W.heap.size, 0, none⟩) [x, y] := fun j z hz => by
  have hn := heap_alloc_new W (.cells #[.int .i64 (x : Nat), .int .i64 (y : Nat)] t)
  refine ⟨W.heap.size, 0, rfl, by simp, ?_⟩
  match j, hz with
  | 0, hz => injection hz with hz; subst hz; unfold World.cell?; rw [hn]; rfl
  | 1, hz => injection hz with hz; subst hz; unfold World.cell?; rw [hn]; rfl

theorem rd_one (W : World) (x : Nat) (t : TypeId) : RdN (W.alloc (.cells #[.int .i64 (x : Nat)] t)) (some ⟨W.heap.size, 0, none⟩) [x] := fun j z hz => by
  have hn := heap_alloc_new W (.cells #[.int .i64 (x : Nat)] t)
  refine ⟨W.heap.size, 0, rfl, by simp, ?_⟩
  match j, hz with
  | 0, hz => injection hz with hz; subst hz; unfold World.cell?; rw [hn]; rfl

theorem same_two {b n : Nat} {f : Nat → Bool} (W : World) (h : SetAt W b n f) (x y : Nat) (he : els n f = [x, y]) :
    Calls Try.prog 33 #[.pointer (some ⟨b, 0, none⟩), .slice (some ⟨W.heap.size, 0, none⟩) 2 2] (W.alloc (.cells #[.int .i64 (x : Nat), .int .i64 (y : Nat)] 3)) fun e w' => e = .returned (.bool true) ∧ Below W.heap.size W w' := by
  have hA : Below W.heap.size W (W.alloc (.cells #[.int .i64 (x : Nat), .int .i64 (y : Nat)] 3)) := (Below.refl _ _).alloc (Nat.le_refl _) _
  refine (sameS (c := 2) _ (h.below hA) (by rw [he]; exact rd_two W x y _) (by rw [he]; rfl)).mono ?_
  rintro e w' ⟨he, hb⟩
  exact ⟨he, hA.trans (hb.mono hA.size)⟩

theorem same_one {b n : Nat} {f : Nat → Bool} (W : World) (h : SetAt W b n f) (x : Nat) (he : els n f = [x]) :
    Calls Try.prog 33 #[.pointer (some ⟨b, 0, none⟩), .slice (some ⟨W.heap.size, 0, none⟩) 1 1] (W.alloc (.cells #[.int .i64 (x : Nat)] 3)) fun e w' => e = .returned (.bool true) ∧ Below W.heap.size W w' := by
  have hA : Below W.heap.size W (W.alloc (.cells #[.int .i64 (x : Nat)] 3)) := (Below.refl _ _).alloc (Nat.le_refl _) _
  refine (sameS (c := 1) _ (h.below hA) (by rw [he]; exact rd_one W x _) (by rw [he]; rfl)).mono ?_
  rintro e w' ⟨he, hb⟩
  exact ⟨he, hA.trans (hb.mono hA.size)⟩

theorem set_two (n : Nat) (h1 : 1 ≤ n) (h34 : n ≤ 34) (x y : Nat) (hx : x < n) (hy : y < n) (W : World) :
    Calls Try.prog 35 #[.int .i64 (n : Nat), .slice (some ⟨W.heap.size, 0, none⟩) 2 2] (W.alloc (.cells #[.int .i64 (x : Nat), .int .i64 (y : Nat)] 3)) fun e w' => e = .returned (.pointer (some ⟨W.heap.size + 1, 0, none⟩)) ∧ SetAt w' (W.heap.size + 1) n (inL [x, y]) ∧ Below W.heap.size W w' := by
  have hA : Below W.heap.size W (W.alloc (.cells #[.int .i64 (x : Nat), .int .i64 (y : Nat)] 3)) := (Below.refl _ _).alloc (Nat.le_refl _) _
  refine (setS n h1 h34 _ 2 2 [x, y] rfl (by decide) (by intro z hz; simp at hz; omega) _ (rd_two W x y _)).mono ?_
  rintro e w' ⟨he, hS, hb⟩
  rw [World.size_alloc] at he hS
  exact ⟨he, hS, hA.trans (hb.mono hA.size)⟩

theorem next_to {b n : Nat} {f : Nat → Bool} (i : Int) (W : World) (h : SetAt W b n f) (v : Int) (q : Bool) (hv : (((nxt (els n f) i).getD 0 : Nat) : Int) = v) (hq : (nxt (els n f) i).isSome = q) :
    Calls Try.prog 25 #[.pointer (some ⟨b, 0, none⟩), .int .i64 i] W fun e w' => e = .returned (.tuple #[.int .i64 v, .bool q]) ∧ Below W.heap.size W w' := by
  rw [← hv, ← hq]; exact nextS i W h
theorem low_to {b n : Nat} {f : Nat → Bool} (W : World) (h : SetAt W b n f) (v : Int) (q : Bool) (hv : (((nxt (els n f) 0).getD 0 : Nat) : Int) = v) (hq : (nxt (els n f) 0).isSome = q) :
    Calls Try.prog 27 #[.pointer (some ⟨b, 0, none⟩)] W fun e w' => e = .returned (.tuple #[.int .i64 v, .bool q]) ∧ Below W.heap.size W w' := by
  rw [← hv, ← hq]; exact lowestS W h

set_option maxHeartbeats 4000000 in
set_option maxRecDepth 100000 in
theorem works8_any (W : World) : Calls Try.prog 12 #[] W fun e w' => e = .returned (.bool true) ∧ Below W.heap.size W w' := by
  have hset := setS 8 (by decide) (by decide) none 0 0 [] rfl (by decide) (by simp) W (RdN.nil W none)
  go_enter Try.func12, Try.ntmps12
  go_wp2_with fail
  refine hset.mono ?_
  rintro e W1 ⟨rfl, hS, hb⟩
  clear hset
  have HS := Lib.hid hS
  have HB := Lib.hid hb
  clear hS hb
  go_wp2_with fail
  refine (addS HS.out 5 (by decide)).mono ?_
  rintro e W2 ⟨rfl, hS, ho⟩
  replace hS := hS.congr (g := inL [5]) (by decide)
  have hb := HB.out.trans (ho.below (Nat.le_refl _) HB.out.size)
  clear HS HB ho
  have HS := Lib.hid hS
  have HB := Lib.hid hb
  clear hS hb
  go_wp2_with fail
  refine (addS HS.out 2 (by decide)).mono ?_
  rintro e W3 ⟨rfl, hS, ho⟩
  replace hS := hS.congr (g := inL [2, 5]) (by decide)
  have hb := HB.out.trans (ho.below (Nat.le_refl _) HB.out.size)
  clear HS HB ho
  have HS := Lib.hid hS
  have HB := Lib.hid hb
  clear hS hb
  go_wp2_with fail
  refine (addS HS.out 5 (by decide)).mono ?_
  rintro e W4 ⟨rfl, hS, ho⟩
  replace hS := hS.congr (g := inL [2, 5]) (by decide)
  have hb := HB.out.trans (ho.below (Nat.le_refl _) HB.out.size)
  clear HS HB ho
  have HS := Lib.hid hS
  have HB := Lib.hid hb
  clear hS hb
  go_wp2_with fail
  refine (addOutS HS.out 8 (by decide)).mono ?_
  rintro e W5 ⟨rfl, hw⟩
  have hw2 := hw.symm
  subst hw2
  clear hw
  go_wp2_with fail
  refine (same_two _ HS.out 2 5 (by decide)).mono ?_
  rintro e W6 ⟨rfl, hb2⟩
  have hS := HS.out.below hb2
  have hb := HB.out.trans (hb2.mono HB.out.size)
  clear HS HB hb2
  have HS := Lib.hid hS
  have HB := Lib.hid hb
  clear hS hb
  go_wp2_with fail
  refine (next_to 3 _ HS.out 5 true (by decide) (by decide)).mono ?_
  rintro e W7 ⟨rfl, hb2⟩
  have hS := HS.out.below hb2
  have hb := HB.out.trans (hb2.mono HB.out.size)
  clear HS HB hb2
  have HS := Lib.hid hS
  have HB := Lib.hid hb
  clear hS hb
  go_wp2_with fail
  refine (next_to 6 _ HS.out 0 false (by decide) (by decide)).mono ?_
  rintro e W8 ⟨rfl, hb2⟩
  have hS := HS.out.below hb2
  have hb := HB.out.trans (hb2.mono HB.out.size)
  clear HS HB hb2
  have HS := Lib.hid hS
  have HB := Lib.hid hb
  clear hS hb
  go_wp2_with fail
  refine (low_to _ HS.out 2 true (by decide) (by decide)).mono ?_
  rintro e W9 ⟨rfl, hb2⟩
  have hS := HS.out.below hb2
  have hb := HB.out.trans (hb2.mono HB.out.size)
  clear HS HB hb2
  have HS := Lib.hid hS
  have HB := Lib.hid hb
  clear hS hb
  go_wp2_with fail
  refine (removeS HS.out 2 (by decide)).mono ?_
  rintro e W10 ⟨rfl, hS, ho⟩
  replace hS := hS.congr (g := inL [5]) (by decide)
  have hb := HB.out.trans (ho.below (Nat.le_refl _) HB.out.size)
  clear HS HB ho
  have HS := Lib.hid hS
  have HB := Lib.hid hb
  clear hS hb
  go_wp2_with fail
  refine (set_two 8 (by decide) (by decide) 0 5 (by decide) (by decide) _).mono ?_
  rintro e W11 ⟨rfl, hT, hb2⟩
  have HT := Lib.hid hT
  clear hT
  have hS := HS.out.below hb2
  have hb := HB.out.trans (hb2.mono HB.out.size)
  clear HS HB hb2
  have HS := Lib.hid hS
  have HB := Lib.hid hb
  clear hS hb
  go_wp2_with fail
  refine (unionS HS.out HT.out).mono ?_
  rintro e W12 ⟨rfl, hS, ho⟩
  replace hS := hS.congr (g := inL [0, 5]) (by decide)
  have hb := HB.out.trans (ho.below (Nat.le_refl _) HB.out.size)
  clear HS HB ho HT
  have HS := Lib.hid hS
  have HB := Lib.hid hb
  clear hS hb
  go_wp2_with fail
  refine (same_two _ HS.out 0 5 (by decide)).mono ?_
  rintro e W13 ⟨rfl, hb2⟩
  have hS := HS.out.below hb2
  have hb := HB.out.trans (hb2.mono HB.out.size)
  clear HS HB hb2
  have HS := Lib.hid hS
  have HB := Lib.hid hb
  clear hS hb
  go_wp2_with fail
  refine (set_two 8 (by decide) (by decide) 5 7 (by decide) (by decide) _).mono ?_
  rintro e W14 ⟨rfl, hT, hb2⟩
  have HT := Lib.hid hT
  clear hT
  have hS := HS.out.below hb2
  have hb := HB.out.trans (hb2.mono HB.out.size)
  clear HS HB hb2
  have HS := Lib.hid hS
  have HB := Lib.hid hb
  clear hS hb
  go_wp2_with fail
  refine (minusS HS.out HT.out).mono ?_
  rintro e W15 ⟨rfl, hS, ho⟩
  replace hS := hS.congr (g := inL [0]) (by decide)
  have hb := HB.out.trans (ho.below (Nat.le_refl _) HB.out.size)
  clear HS HB ho HT
  have HS := Lib.hid hS
  have HB := Lib.hid hb
  clear hS hb
  go_wp2_with fail
  refine (same_one _ HS.out 0 (by decide)).mono ?_
  rintro e W16 ⟨rfl, hb2⟩
  have hS := HS.out.below hb2
  have hb := HB.out.trans (hb2.mono HB.out.size)
  clear HS HB hb2
  have HS := Lib.hid hS
  have HB := Lib.hid hb
  clear hS hb
  go_wp2_with fail
  refine (setS 9 (by decide) (by decide) none 0 0 [] rfl (by decide) (by simp) _ (RdN.nil _ none)).mono ?_
  rintro e V1 ⟨rfl, hT, hb2⟩
  have HT := Lib.hid hT
  clear hT
  have hS := HS.out.below hb2
  have hb := HB.out.trans (hb2.mono HB.out.size)
  clear HS HB hb2
  have HS := Lib.hid hS
  have HB := Lib.hid hb
  clear hS hb
  go_wp2_with fail
  refine (unionOutS HS.out HT.out (by decide)).mono ?_
  rintro e V2 ⟨rfl, hb2⟩
  have hS := HS.out.below hb2
  have hb := HB.out.trans (hb2.mono HB.out.size)
  clear HS HB hb2
  have HS := Lib.hid hS
  have HB := Lib.hid hb
  clear hS hb
  go_wp2_with fail
  refine (sizeS HS.out).mono ?_
  rintro e V3 ⟨rfl, hw⟩
  have hw2 := hw.symm
  subst hw2
  clear hw
  go_wp2_with fail
  go_ret
  exact ⟨rfl, HB.out⟩
end Go.Proofs.Ytejkbanecbjdoaa
