/- HistoryNil: the document's own functions at nil, the comparison, the walk. -/
import Derived.Test.YtahccgbmbnmcgaaHiBadS
import Derived.Test.YtahccgbmbnmcgaaHiSinceN
import Derived.Test.YtahccgbmbnmcgaaHiReadsS
import Derived.Test.YtahccgbmbnmcgaaHiWorks
namespace Go.Proofs.Ytahccgbmbnmcgaa
open Go Go.RowKit

set_option maxHeartbeats 800000 in
set_option maxRecDepth 100000 in
theorem rvalidN (W : World) : Calls Try.prog 46 #[.pointer none] W fun e w' => e = .returned (.bool false) ∧ w' = W := by
  go_enter Try.func46, Try.ntmps46
  go_wp2
  go_ret
  exact ⟨rfl, rfl⟩

set_option maxHeartbeats 800000 in
set_option maxRecDepth 100000 in
theorem rlenN (W : World) : Calls Try.prog 53 #[.pointer none] W fun e w' => e = .returned (.int .i64 0) ∧ w' = W := by
  have hv := rvalidN W
  go_enter Try.func53, Try.ntmps53
  go_wp2_with (go_at_call 46; refine hv.mono ?_; rintro e w' ⟨rfl, rfl⟩)
  go_ret
  exact ⟨rfl, rfl⟩

set_option maxHeartbeats 800000 in
set_option maxRecDepth 100000 in
theorem rmarkedN (W : World) : Calls Try.prog 54 #[.pointer none] W fun e w' => e = .returned (.int .i64 0) ∧ w' = W := by
  have hv := rvalidN W
  go_enter Try.func54, Try.ntmps54
  go_wp2_with (go_at_call 46; refine hv.mono ?_; rintro e w' ⟨rfl, rfl⟩)
  go_ret
  exact ⟨rfl, rfl⟩

set_option maxHeartbeats 800000 in
set_option maxRecDepth 100000 in
theorem rallN (W : World) : Calls Try.prog 51 #[.pointer none] W fun e w' => e = .returned (.slice none 0 0) ∧ w' = W := by
  have hv := rvalidN W
  go_enter Try.func51, Try.ntmps51
  go_wp2_with (go_at_call 46; refine hv.mono ?_; rintro e w' ⟨rfl, rfl⟩)
  go_ret
  exact ⟨rfl, rfl⟩

set_option maxHeartbeats 800000 in
set_option maxRecDepth 100000 in
theorem rsinceN (W : World) : Calls Try.prog 52 #[.pointer none] W fun e w' => e = .returned (.slice none 0 0) ∧ w' = W := by
  have hv := rvalidN W
  go_enter Try.func52, Try.ntmps52
  go_wp2_with (go_at_call 46; refine hv.mono ?_; rintro e w' ⟨rfl, rfl⟩)
  go_ret
  exact ⟨rfl, rfl⟩

set_option maxHeartbeats 800000 in
set_option maxRecDepth 100000 in
theorem ratN (k : Int) (W : World) : Calls Try.prog 49 #[.pointer none, .int .i64 k] W fun e w' => e = .returned (.tuple #[.string ⟨#[]⟩, .int .i64 1]) ∧ w' = W := by
  have hv := rvalidN W
  go_enter Try.func49, Try.ntmps49
  go_wp2_with (go_at_call 46; refine hv.mono ?_; rintro e w' ⟨rfl, rfl⟩)
  go_ret2
  exact ⟨rfl, rfl⟩

section
variable {w0 : World} {v : Option Addr}

theorem allBad (h : BadS w0 v) (W : World) (hb : Below w0.heap.size w0 W) : Calls Try.prog 50 #[.pointer v] W fun e w' => ∃ q c, e = .returned (.tuple #[.slice q 0 c, .bool true]) ∧ Below W.heap.size W w' := by
  refine (allG_any (v := v) (N := 0) (l := []) (Qp := fun _ => True) W rfl (by decide) (fun X bl hX hc => allSeqNS h 9 (by decide) bl X (hb.trans (hX.mono hb.size)) hc _) (fun _ _ => trivial)).mono fun e w' ⟨u, he, hr, hbw⟩ => ?_
  obtain ⟨q, c, rfl, -, -⟩ := ownsRow_slice4 hr
  exact ⟨q, c, he, hbw⟩
theorem sinceBad (h : BadS w0 v) (W : World) (hb : Below w0.heap.size w0 W) : Calls Try.prog 43 #[.pointer v] W fun e w' => ∃ q c, e = .returned (.slice q 0 c) ∧ Below W.heap.size W w' := by
  refine (sinceG_any (v := v) (N := 0) (ys := []) (Qp := fun _ => True) W rfl (by decide) (fun X bl hX hc => sinceSeqNS h 9 (by decide) bl X (hb.trans (hX.mono hb.size)) hc) (fun _ _ => trivial)).mono fun e w' ⟨u, he, hr, hbw⟩ => ?_
  obtain ⟨q, c, rfl, -, -⟩ := ownsRow_slice4 hr
  exact ⟨q, c, he, hbw⟩

set_option maxHeartbeats 3200000 in
set_option maxRecDepth 100000 in
/-- A list that is none shows what the document's nil shows. -/
theorem showsN (h : BadS w0 v) (k : Int) (W : World) (hb : Below w0.heap.size w0 W) :
    Calls Try.prog 23 #[.pointer v, .pointer none, .int .i64 k] W fun e w' => e = .returned (.bool true) ∧ Hid (Below W.heap.size W w') := by
  have hat := atNS h k W hb
  have hra := ratN k W
  have hal := allBad h W hb
  have HB : Hid (∀ V, Below W.heap.size W V → Below w0.heap.size w0 V) := Lib.hid fun V hV => hb.trans (hV.mono hb.size)
  have HH := Lib.hid h
  have hE : ∀ (q q' : Option Addr) (c d : Nat) (V : World), Calls Try.prog 42 #[.slice q 0 c, .slice q' 0 d] V fun e w' => e = .returned (.bool true) ∧ ∃ k, w' = V.drewN k := fun q q' c d V => (RdS.nil V q).same (RdS.nil V q') rfl rfl (by decide) (by decide)
  have HE := Lib.hid hE
  clear hE h hb
  go_enter Try.func23, Try.ntmps23
  go_wp2_with fail
  refine hat.mono ?_
  rintro e w1 ⟨rfl, rfl⟩
  go_wp2_with fail
  refine hra.mono ?_
  rintro e w2 ⟨rfl, rfl⟩
  go_wp2_with fail
  refine hal.mono ?_
  rintro e w3 ⟨q, c, rfl, hb3⟩
  have hr3 := rallN w3
  have HB3 := Lib.hid hb3
  clear hat hra hal hb3
  go_wp2_with fail
  refine hr3.mono ?_
  rintro e w4 ⟨rfl, rfl⟩
  go_wp2_with fail
  refine (HE.out _ _ _ _ _).mono ?_
  rintro e w5 ⟨rfl, k5, rfl⟩
  have hb5 : Below w2.heap.size w2 (w4.drewN k5) := Below.drewN' _ HB3.out
  obtain ⟨V5, hV5⟩ : ∃ V5, V5 = w4.drewN k5 := ⟨_, rfl⟩
  rw [← hV5] at hb5 ⊢
  have hs5 := sinceBad HH.out V5 (HB.out V5 hb5)
  have HB5 := Lib.hid hb5
  clear hr3 hb5 hV5
  go_wp2_with fail
  refine hs5.mono ?_
  rintro e w6 ⟨q6, c6, rfl, hb6⟩
  have hr6 := rsinceN w6
  have HB6 := Lib.hid (HB5.out.trans (hb6.mono HB5.out.size))
  clear hs5 hb6 HB5
  go_wp2_with fail
  refine hr6.mono ?_
  rintro e w7 ⟨rfl, rfl⟩
  go_wp2_with fail
  refine (HE.out _ _ _ _ _).mono ?_
  rintro e w8 ⟨rfl, k8, rfl⟩
  have hb8 : Below w2.heap.size w2 (w7.drewN k8) := Below.drewN' _ HB6.out
  obtain ⟨V8, hV8⟩ : ∃ V8, V8 = w7.drewN k8 := ⟨_, rfl⟩
  rw [← hV8] at hb8 ⊢
  have hl8 := lenNS HH.out V8 (HB.out V8 hb8)
  have hm8 := markedNS HH.out V8 (HB.out V8 hb8)
  have hrl8 := rlenN V8
  have hrm8 := rmarkedN V8
  have HB8 := Lib.hid hb8
  clear hr6 hb8 hV8
  go_wp2_with (first | (go_at_call 41; refine hl8.mono ?_; rintro e w' ⟨rfl, rfl⟩) | (go_at_call 53; refine hrl8.mono ?_; rintro e w' ⟨rfl, rfl⟩) | (go_at_call 40; refine hm8.mono ?_; rintro e w' ⟨rfl, rfl⟩) | (go_at_call 54; refine hrm8.mono ?_; rintro e w' ⟨rfl, rfl⟩))
  go_ret
  exact ⟨rfl, HB8⟩
end
end Go.Proofs.Ytahccgbmbnmcgaa
