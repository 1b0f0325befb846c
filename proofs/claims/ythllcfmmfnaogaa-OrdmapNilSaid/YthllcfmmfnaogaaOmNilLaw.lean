/- OrdmapNil: the walk. -/
import Derived.Test.YthllcfmmfnaogaaOmShowN
import Derived.Test.YthllcfmmfnaogaaOmWorks
namespace Go.Proofs.Ythllcfmmfnaogaa
open Go Go.RowKit

attribute [local go_sem] Oper.semAt_some

set_option maxHeartbeats 6400000 in
set_option maxRecDepth 100000 in
theorem ordmapNil_in (n : Nat) (hn : 8 ≤ n) (k v : ByteArray) (i : Int) (w : World) :
    CallsIn Fence.wide n Try.prog 4 #[.string k, .string v, .int .i64 i] w fun e w' => e = .returned (.bool true) ∧ Below w.heap.size w w' := by
  have h1 : 1 ≤ n := by omega
  by_cases hbig : 1000 < k.size
  · refine callsIn_of_wp Try.func4 rfl trivial ?_ rfl
    simp only [Try.ntmps4, List.size_toArray, List.length_cons, List.length_nil, Nat.reduceAdd, Nat.reduceSub, Array.replicate_succ, Array.replicate_zero, List.push_toArray, List.append_toArray, List.nil_append, List.cons_append]
    gi_wp2_with fail
    refine ⟨trivial, (callsIn_wide.2 (works3_any w)).mono ?_⟩
    rintro e w1 ⟨rfl, hb⟩
    gi_wp2_with fail
    go_ret
    exact ⟨rfl, hb⟩
  by_cases hbig2 : 1000 < v.size
  · refine callsIn_of_wp Try.func4 rfl trivial ?_ rfl
    simp only [Try.ntmps4, List.size_toArray, List.length_cons, List.length_nil, Nat.reduceAdd, Nat.reduceSub, Array.replicate_succ, Array.replicate_zero, List.push_toArray, List.append_toArray, List.nil_append, List.cons_append]
    gi_wp2_with fail
    refine ⟨trivial, (callsIn_wide.2 (works3_any w)).mono ?_⟩
    rintro e w1 ⟨rfl, hb⟩
    gi_wp2_with fail
    go_ret
    exact ⟨rfl, hb⟩
  refine callsIn_of_wp Try.func4 rfl trivial ?_ rfl
  simp only [Try.ntmps4, List.size_toArray, List.length_cons, List.length_nil, Nat.reduceAdd, Nat.reduceSub, Array.replicate_succ, Array.replicate_zero, List.push_toArray, List.append_toArray, List.nil_append, List.cons_append]
  gi_wp2_with fail
  have hb3 : Below w.heap.size w ((w.alloc (.cells #[.pointer none, .slice none 0 0] 40)).alloc (.cells #[.pointer none, .pointer (some ⟨w.heap.size, 0, none⟩)] 24)) := ((Below.refl _ _).alloc (Nat.le_refl _) _).alloc (by simp) _
  have z0 : ((w.alloc (.cells #[.pointer none, .slice none 0 0] 40)).alloc (.cells #[.pointer none, .pointer (some ⟨w.heap.size, 0, none⟩)] 24)).heap[w.heap.size]? = some (.cells #[.pointer none, .slice none 0 0] 40 (0, 0)) := by
    rw [Below.heap_alloc _ _ _ (by simp)]
    exact heap_alloc_new w _
  have z1 : ((w.alloc (.cells #[.pointer none, .slice none 0 0] 40)).alloc (.cells #[.pointer none, .pointer (some ⟨w.heap.size, 0, none⟩)] 24)).heap[w.heap.size + 1]? = some (.cells #[.pointer none, .pointer (some ⟨w.heap.size, 0, none⟩)] 24 (0, 0)) := by
    have := heap_alloc_new (w.alloc (.cells #[.pointer none, .slice none 0 0] 40)) (.cells #[.pointer none, .pointer (some ⟨w.heap.size, 0, none⟩)] 24)
    rwa [World.size_alloc] at this
  obtain ⟨w3, hw3⟩ : ∃ w3, w3 = (w.alloc (.cells #[.pointer none, .slice none 0 0] 40)).alloc (.cells #[.pointer none, .pointer (some ⟨w.heap.size, 0, none⟩)] 24) := ⟨_, rfl⟩
  rw [← hw3] at hb3 z0 z1 ⊢
  clear hw3
  have HB3 := Lib.hid hb3
  have HC : Hid (∀ j, j < 2 → ∃ x, w3.cell? ⟨w.heap.size + 1, j, none⟩ = some (.pointer x) ∧ VoidB w3 x) := Lib.hid fun j hj => by
    match j, hj with
    | 0, _ => exact ⟨none, by simp only [World.cell?, z1]; rfl, voidNilB w3⟩
    | 1, _ => exact ⟨some ⟨w.heap.size, 0, none⟩, by simp only [World.cell?, z1]; rfl, voidZeroB w3 _ (by simp only [World.cell?, z0]; rfl)⟩
  clear hb3 z0 z1
  gi_loopw [32] (fun s wr => ∃ j : Nat, j ≤ 2 ∧ s = .int .i64 j ∧ Below w3.heap.size w3 wr) (fun s _ => 2 - (intOf s).toNat)
  case atStart => exact ⟨0, by omega, rfl, Below.refl _ _⟩
  case round =>
    obtain ⟨j, hj, rfl, hb⟩ := hrel
    by_cases hlt : j < 2
    · obtain ⟨x, hc0, hx⟩ := HC.out j hlt
      have hc := (hb.cell (World.block_lt_of_cell? _ _ hc0)).trans hc0
      have HV := Lib.hid hx
      have HR0 := Lib.hid hb
      clear hc0 hx hb
      gi_wp2_with fail
      refine ⟨trivial, (callsIn_wide.2 (setNB HV.out k v _ HR0.out)).mono ?_⟩
      rintro e Y ⟨rfl, hw⟩
      obtain rfl : wr = Y := hw.symm
      gi_wp2_with fail
      refine ⟨trivial, (callsIn_wide.2 (atNB HV.out i _ HR0.out)).mono ?_⟩
      rintro e Y1 ⟨rfl, hb⟩
      have HR1 := Lib.hid (HR0.out.trans (hb.mono HR0.out.size))
      clear hb hc
      gi_wp2_with fail
      refine ⟨trivial, (showsN (n - 1) (by omega) HV.out k i _ HR1.out).mono ?_⟩
      rintro e Y2 ⟨rfl, hb⟩
      have HR2 := Lib.hid (HR1.out.trans (hb.mono HR1.out.size))
      clear hb
      gi_wp2_with fail
      refine ⟨trivial, (callsIn_wide.2 (copyMNB HV.out _ HR2.out)).mono ?_⟩
      rintro e Y3 ⟨rfl, hw⟩
      obtain rfl : Y2 = Y3 := hw.symm
      gi_wp2_with fail
      refine ⟨trivial, (callsIn_wide.2 (delNB HV.out k _ HR2.out)).mono ?_⟩
      rintro e Y4 ⟨rfl, hb⟩
      have HR4 := Lib.hid (HR2.out.trans (hb.mono HR2.out.size))
      clear hb
      gi_wp2_with fail
      go_roundw
      case rel => exact ⟨j + 1, by omega, by simp, HR4.out⟩
      case measure => simp [intOf]; omega
    · obtain rfl : j = 2 := by omega
      have HR0 := Lib.hid hb
      clear hb
      gi_wp2_with fail
      refine ⟨trivial, (callsIn_wide.2 (works3_any _)).mono ?_⟩
      rintro e Y ⟨rfl, hb⟩
      gi_wp2_with fail
      go_ret
      exact ⟨rfl, HB3.out.trans ((HR0.out.trans (hb.mono HR0.out.size)).mono HB3.out.size)⟩
end Go.Proofs.Ythllcfmmfnaogaa
