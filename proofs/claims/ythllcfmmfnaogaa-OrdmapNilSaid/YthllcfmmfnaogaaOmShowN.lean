/- shows: a map that is none against the document's own nil. -/
import Derived.Test.YthllcfmmfnaogaaOmRefN
import Derived.Test.YthllcfmmfnaogaaShelf
namespace Go.Proofs.Ythllcfmmfnaogaa
open Go Go.RowKit

attribute [local go_sem] Oper.semAt_some

set_option maxHeartbeats 6400000 in
set_option maxRecDepth 100000 in
theorem showsN (n : Nat) (hn : 6 ≤ n) {w0 : World} {v : Option Addr} (h : VoidB w0 v) (k : ByteArray) (i : Int) (X0 : World) (hb : Below w0.heap.size w0 X0) :
    CallsIn Fence.wide n Try.prog 24 #[.pointer v, .pointer none, .string k, .int .i64 i] X0 fun e w' => e = .returned (.bool true) ∧ Below X0.heap.size X0 w' := by
  have h1 : 1 ≤ n := by omega
  have H := Lib.hid h
  have HB := Lib.hid hb
  have HX0 : Hid (Below X0.heap.size X0 X0) := Lib.hid (Below.refl _ _)
  clear h hb
  refine callsIn_of_wp Try.func24 rfl trivial ?_ rfl
  simp only [Try.ntmps24, List.size_toArray, List.length_cons, List.length_nil, Nat.reduceAdd, Nat.reduceSub, Array.replicate_succ, Array.replicate_zero, List.push_toArray, List.append_toArray, List.nil_append, List.cons_append]
  gi_wp2_with fail
  refine ⟨trivial, (callsIn_wide.2 (floorNB H.out k X0 (HB.out.trans (HX0.out.mono HB.out.size)))).mono ?_⟩
  rintro e X1 ⟨rfl, hb⟩
  have HX1 := Lib.hid (HX0.out.trans (hb.mono HX0.out.size))
  clear hb
  gi_wp2_with fail
  refine ⟨trivial, (callsIn_wide.2 (refFloor k X1)).mono ?_⟩
  rintro e Y ⟨rfl, hw⟩
  obtain rfl : X1 = Y := hw.symm
  gi_wp2_with fail
  refine ⟨trivial, (callsIn_wide.2 (ceilNB H.out k X1 (HB.out.trans (HX1.out.mono HB.out.size)))).mono ?_⟩
  rintro e X2 ⟨rfl, hb⟩
  have HX2 := Lib.hid (HX1.out.trans (hb.mono HX1.out.size))
  clear hb
  gi_wp2_with fail
  refine ⟨trivial, (callsIn_wide.2 (refCeil k X2)).mono ?_⟩
  rintro e Y ⟨rfl, hw⟩
  obtain rfl : X2 = Y := hw.symm
  gi_wp2_with fail
  refine ⟨trivial, (callsIn_wide.2 (minNB H.out X2 (HB.out.trans (HX2.out.mono HB.out.size)))).mono ?_⟩
  rintro e X3 ⟨rfl, hb⟩
  have HX3 := Lib.hid (HX2.out.trans (hb.mono HX2.out.size))
  clear hb
  gi_wp2_with fail
  refine ⟨trivial, (callsIn_wide.2 (refMin X3)).mono ?_⟩
  rintro e Y ⟨rfl, hw⟩
  obtain rfl : X3 = Y := hw.symm
  gi_wp2_with fail
  refine ⟨trivial, (callsIn_wide.2 (maxNB H.out X3 (HB.out.trans (HX3.out.mono HB.out.size)))).mono ?_⟩
  rintro e X4 ⟨rfl, hb⟩
  have HX4 := Lib.hid (HX3.out.trans (hb.mono HX3.out.size))
  clear hb
  gi_wp2_with fail
  refine ⟨trivial, (callsIn_wide.2 (refMax X4)).mono ?_⟩
  rintro e Y ⟨rfl, hw⟩
  obtain rfl : X4 = Y := hw.symm
  gi_wp2_with fail
  refine ⟨trivial, (callsIn_wide.2 (atNB H.out i X4 (HB.out.trans (HX4.out.mono HB.out.size)))).mono ?_⟩
  rintro e X5 ⟨rfl, hb⟩
  have HX5 := Lib.hid (HX4.out.trans (hb.mono HX4.out.size))
  clear hb
  gi_wp2_with fail
  refine ⟨trivial, (callsIn_wide.2 (refAt i X5)).mono ?_⟩
  rintro e Y ⟨rfl, hw⟩
  obtain rfl : X5 = Y := hw.symm
  gi_wp2_with fail
  refine ⟨trivial, (callsIn_wide.2 (getNB H.out k X5 (HB.out.trans (HX5.out.mono HB.out.size)))).mono ?_⟩
  rintro e X6 ⟨rfl, hb⟩
  have HX6 := Lib.hid (HX5.out.trans (hb.mono HX5.out.size))
  clear hb
  gi_wp2_with fail
  refine ⟨trivial, (callsIn_wide.2 (refGet k X6)).mono ?_⟩
  rintro e Y ⟨rfl, hw⟩
  obtain rfl : X6 = Y := hw.symm
  gi_wp2_with fail
  refine ⟨trivial, (callsIn_wide.2 (lenMNB H.out X6 (HB.out.trans (HX6.out.mono HB.out.size)))).mono ?_⟩
  rintro e Y ⟨rfl, hw⟩
  obtain rfl : X6 = Y := hw.symm
  gi_wp2_with fail
  refine ⟨trivial, (callsIn_wide.2 (refLen X6)).mono ?_⟩
  rintro e Y ⟨rfl, hw⟩
  obtain rfl : X6 = Y := hw.symm
  gi_wp2_with fail
  refine ⟨trivial, (callsIn_wide.2 (rankNB H.out k X6 (HB.out.trans (HX6.out.mono HB.out.size)))).mono ?_⟩
  rintro e X7 ⟨rfl, hb⟩
  have HX7 := Lib.hid (HX6.out.trans (hb.mono HX6.out.size))
  clear hb
  gi_wp2_with fail
  refine ⟨trivial, (callsIn_wide.2 (refRank k X7)).mono ?_⟩
  rintro e Y ⟨rfl, hw⟩
  obtain rfl : X7 = Y := hw.symm
  gi_wp2_with fail
  refine ⟨trivial, (callsIn_wide.2 (allMakeB v X7)).mono ?_⟩
  rintro e X8 ⟨rfl, hw⟩
  have hb : Below X7.heap.size X7 X8 := by rw [hw]; exact (Below.refl _ _).alloc (Nat.le_refl _) _
  have hm : X8.cell? ⟨X7.heap.size, 0, none⟩ = some (.pointer v) := by rw [hw]; exact (Boxed.new X7 24 (.pointer v)).cell
  have HX8 := Lib.hid (HX7.out.trans (hb.mono HX7.out.size))
  have HM8 := Lib.hid hm
  clear hb hm hw
  gi_wp2_with fail
  refine ⟨trivial, (callsIn_wide.2 (refLen X8)).mono ?_⟩
  rintro e Y ⟨rfl, hw⟩
  obtain rfl : X8 = Y := hw.symm
  gi_wp2_with fail
  refine ⟨trivial, (pairsN (n - 1) (by omega) _ _ X8 (enters_of Try.func186 (by kernel_rfl) rfl) (fun W Kp hq => allNB (n - 1 - 1) (by omega) H.out X7.heap.size W ((HB.out.trans (HX8.out.mono HB.out.size)).trans (hq.mono (HB.out.trans (HX8.out.mono HB.out.size)).size)) ((hq.cell (World.block_lt_of_cell? _ _ HM8.out)).trans HM8.out) Kp)).mono ?_⟩
  rintro e X9 ⟨rfl, hb⟩
  have HX9 := Lib.hid (HX8.out.trans (hb.mono HX8.out.size))
  clear hb
  gi_wp2_with fail
  refine ⟨trivial, (callsIn_wide.2 (refFrom ⟨#[]⟩ X9)).mono ?_⟩
  rintro e Y ⟨rfl, hw⟩
  obtain rfl : X9 = Y := hw.symm
  gi_wp2_with fail
  refine ⟨trivial, (callsIn_wide.2 (Try.slices_Equal_string_empty none none 0 0 0 X9 (by omega))).mono ?_⟩
  rintro e Y ⟨rfl, hw⟩
  obtain rfl : X9 = Y := hw.symm
  gi_wp2_with fail
  refine ⟨trivial, (callsIn_wide.2 (Try.slices_Equal_string_empty none none 0 0 0 X9 (by omega))).mono ?_⟩
  rintro e Y ⟨rfl, hw⟩
  obtain rfl : X9 = Y := hw.symm
  gi_wp2_with fail
  refine ⟨trivial, (callsIn_wide.2 (fromMakeB v k X9)).mono ?_⟩
  rintro e X10 ⟨rfl, hw⟩
  have hb : Below X9.heap.size X9 X10 := by rw [hw]; exact ((Below.refl _ _).alloc (Nat.le_refl _) _).alloc (by simp) _
  have hm : X10.cell? ⟨X9.heap.size, 0, none⟩ = some (.pointer v) := by rw [hw]; exact ((Boxed.new X9 24 (.pointer v)).alloc _).cell
  have hk : X10.cell? ⟨X9.heap.size + 1, 0, none⟩ = some (.string k) := by
    rw [hw]
    have := (Boxed.new (X9.alloc (.cells #[.pointer v] 24)) 9 (.string k)).cell
    rwa [World.size_alloc] at this
  have HX10 := Lib.hid (HX9.out.trans (hb.mono HX9.out.size))
  have HM10 := Lib.hid (And.intro hm hk)
  clear hb hm hk hw
  gi_wp2_with fail
  refine ⟨trivial, (callsIn_wide.2 (refLen X10)).mono ?_⟩
  rintro e Y ⟨rfl, hw⟩
  obtain rfl : X10 = Y := hw.symm
  gi_wp2_with fail
  refine ⟨trivial, (pairsN (n - 1) (by omega) _ _ X10 (enters_of Try.func194 (by kernel_rfl) rfl) (fun W Kp hq => fromNB (n - 1 - 1) (by omega) H.out k X9.heap.size (X9.heap.size + 1) W ((HB.out.trans (HX10.out.mono HB.out.size)).trans (hq.mono (HB.out.trans (HX10.out.mono HB.out.size)).size)) ((hq.cell (World.block_lt_of_cell? _ _ HM10.out.1)).trans HM10.out.1) ((hq.cell (World.block_lt_of_cell? _ _ HM10.out.2)).trans HM10.out.2) Kp)).mono ?_⟩
  rintro e X11 ⟨rfl, hb⟩
  have HX11 := Lib.hid (HX10.out.trans (hb.mono HX10.out.size))
  clear hb
  gi_wp2_with fail
  refine ⟨trivial, (callsIn_wide.2 (refFrom k X11)).mono ?_⟩
  rintro e Y ⟨rfl, hw⟩
  obtain rfl : X11 = Y := hw.symm
  gi_wp2_with fail
  refine ⟨trivial, (callsIn_wide.2 (Try.slices_Equal_string_empty none none 0 0 0 X11 (by omega))).mono ?_⟩
  rintro e Y ⟨rfl, hw⟩
  obtain rfl : X11 = Y := hw.symm
  gi_wp2_with fail
  refine ⟨trivial, (callsIn_wide.2 (Try.slices_Equal_string_empty none none 0 0 0 X11 (by omega))).mono ?_⟩
  rintro e Y ⟨rfl, hw⟩
  obtain rfl : X11 = Y := hw.symm
  gi_wp2_with fail
  go_ret
  exact ⟨rfl, HX11.out⟩
end Go.Proofs.Ythllcfmmfnaogaa
