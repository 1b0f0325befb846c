/- KeyChecks, KeyOrders, KeyNexts: the walks, over the contracts of package key. -/
import Derived.Test.YtogkabdampkbjaaDoorKeyApi
namespace Go.Proofs.YtogkabdampkbjaaDoor
open Go Go.RowKit

theorem rkCheck_b (s : ByteArray) (w : World) (hl : s.size ≤ 1000000) :
    Calls Tryd.prog 13 #[.string s] w fun e w' => e = .returned (.int .i64 (kCheck (numS s))) ∧ Below w.heap.size w w' :=
  (rkCheck_any s w hl).mono fun _ _ ⟨he, hw⟩ => ⟨he, hw ▸ Below.refl _ _⟩
theorem rkFits_b (s : ByteArray) (m : Int) (w : World) (hl : s.size ≤ 1000000) :
    Calls Tryd.prog 15 #[.string s, .int .i64 m] w fun e w' => e = .returned (.int .i64 (kFits (numS s) m)) ∧ Below w.heap.size w w' :=
  (rkFits_any s m w hl).mono fun _ _ ⟨he, hw⟩ => ⟨he, hw ▸ Below.refl _ _⟩

set_option maxHeartbeats 1600000 in
set_option maxRecDepth 100000 in
theorem keyChecks_any {L : World → Prop} (H : KeyOk L) (s : ByteArray) (m : Int) (w : World) (h : L w) (h0 : -9223372036854775808 ≤ m) (h1 : m ≤ 9223372036854775807) :
    Calls Tryd.prog 3 #[.string s, .int .i64 m] w fun e w' => e = .returned (.bool true) ∧ Below w.heap.size w w' := by
  have HL0 := Lib.hid h
  have HB0 := Lib.hid (Below.refl w.heap.size w)
  have HH := Lib.hid H
  clear h H
  by_cases hbig : 1000 < s.size
  · go_enter Tryd.func3, Tryd.ntmps3
    go_wp2_with fail
    refine (works5_any HH.out _ HL0.out).mono ?_
    rintro e w1 ⟨rfl, hb⟩
    go_wp2_with fail
    go_ret
    exact ⟨rfl, hb⟩
  go_enter Tryd.func3, Tryd.ntmps3
  go_wp2_with fail
  refine (HH.out.check s _ (by omega) HL0.out).mono ?_
  rintro e w1 ⟨rfl, hb⟩
  have HL1 := Lib.hid (HH.out.below _ _ HL0.out hb)
  have HB1 := Lib.hid (below_then5 HB0.out hb)
  clear hb HL0 HB0
  go_wp2_with fail
  refine (rkCheck_b s _ (by omega)).mono ?_
  rintro e w2 ⟨rfl, hb⟩
  have HL2 := Lib.hid (HH.out.below _ _ HL1.out hb)
  have HB2 := Lib.hid (below_then5 HB1.out hb)
  clear hb HL1 HB1
  generalize kCheck (numS s) = c at *
  go_wp2_with fail
  refine (HH.out.fits s m _ (by omega) h0 h1 HL2.out).mono ?_
  rintro e w3 ⟨rfl, hb⟩
  have HL3 := Lib.hid (HH.out.below _ _ HL2.out hb)
  have HB3 := Lib.hid (below_then5 HB2.out hb)
  clear hb HL2 HB2
  go_wp2_with fail
  refine (rkFits_b s m _ (by omega)).mono ?_
  rintro e w4 ⟨rfl, hb⟩
  have HL4 := Lib.hid (HH.out.below _ _ HL3.out hb)
  have HB4 := Lib.hid (below_then5 HB3.out hb)
  clear hb HL3 HB3
  generalize kFits (numS s) m = d at *
  go_wp2_with fail
  refine (works5_any HH.out _ HL4.out).mono ?_
  rintro e w5 ⟨rfl, hb⟩
  go_wp2_with fail
  go_ret
  exact ⟨rfl, below_then5 HB4.out hb⟩

set_option maxHeartbeats 1600000 in
set_option maxRecDepth 100000 in
theorem keyOrders_any {L : World → Prop} (H : KeyOk L) (a b : ByteArray) (w : World) (h : L w) :
    Calls Tryd.prog 4 #[.string a, .string b] w fun e w' => e = .returned (.bool true) ∧ Below w.heap.size w w' := by
  have HL0 := Lib.hid h
  have HB0 := Lib.hid (Below.refl w.heap.size w)
  have HH := Lib.hid H
  clear h H
  by_cases hbig : 1000 < a.size
  · go_enter Tryd.func4, Tryd.ntmps4
    go_wp2_with fail
    refine (works5_any HH.out _ HL0.out).mono ?_
    rintro e w1 ⟨rfl, hb⟩
    go_wp2_with fail
    go_ret
    exact ⟨rfl, hb⟩
  by_cases hbig2 : 1000 < b.size
  · go_enter Tryd.func4, Tryd.ntmps4
    go_wp2_with fail
    refine (works5_any HH.out _ HL0.out).mono ?_
    rintro e w1 ⟨rfl, hb⟩
    go_wp2_with fail
    go_ret
    exact ⟨rfl, hb⟩
  go_enter Tryd.func4, Tryd.ntmps4
  go_wp2_with fail
  refine (HH.out.order a b _ (by omega) (by omega) HL0.out).mono ?_
  rintro e w1 ⟨rfl, hb⟩
  have HL1 := Lib.hid (HH.out.below _ _ HL0.out hb)
  have HB1 := Lib.hid (below_then5 HB0.out hb)
  clear hb HL0 HB0
  go_wp2_with fail
  refine (rOrder_any a b _ (by omega)).mono ?_
  rintro e w2 ⟨rfl, hb⟩
  have HL2 := Lib.hid (HH.out.below _ _ HL1.out hb)
  have HB2 := Lib.hid (below_then5 HB1.out hb)
  clear hb HL1 HB1
  generalize ordL (numS a) (numS b) = c at *
  go_wp2_with fail
  refine (HH.out.common a b _ (by omega) (by omega) HL2.out).mono ?_
  rintro e w3 ⟨rfl, hb⟩
  have HL3 := Lib.hid (HH.out.below _ _ HL2.out hb)
  have HB3 := Lib.hid (below_then5 HB2.out hb)
  clear hb HL2 HB2
  go_wp2_with fail
  refine (rCommon_any a b _ (by omega)).mono ?_
  rintro e w4 ⟨rfl, hb⟩
  have HL4 := Lib.hid (HH.out.below _ _ HL3.out hb)
  have HB4 := Lib.hid (below_then5 HB3.out hb)
  clear hb HL3 HB3
  generalize comL (numS a) (numS b) = d at *
  go_wp2_with fail
  refine (works5_any HH.out _ HL4.out).mono ?_
  rintro e w5 ⟨rfl, hb⟩
  go_wp2_with fail
  go_ret
  exact ⟨rfl, below_then5 HB4.out hb⟩

set_option maxHeartbeats 1600000 in
set_option maxRecDepth 100000 in
theorem keyNexts_any {L : World → Prop} (H : KeyOk L) (s : ByteArray) (m : Int) (w : World) (h : L w) (h0 : -9223372036854775808 ≤ m) (h1 : m ≤ 9223372036854775807) :
    Calls Tryd.prog 5 #[.string s, .int .i64 m] w fun e w' => e = .returned (.bool true) ∧ Below w.heap.size w w' := by
  have HL0 := Lib.hid h
  have HB0 := Lib.hid (Below.refl w.heap.size w)
  have HH := Lib.hid H
  clear h H
  by_cases hbig : 1000 < s.size
  · go_enter Tryd.func5, Tryd.ntmps5
    go_wp2_with fail
    refine (works5_any HH.out _ HL0.out).mono ?_
    rintro e w1 ⟨rfl, hb⟩
    go_wp2_with fail
    go_ret
    exact ⟨rfl, hb⟩
  go_enter Tryd.func5, Tryd.ntmps5
  go_wp2_with fail
  refine (HH.out.next s _ (by omega) HL0.out).mono ?_
  rintro e w1 ⟨rfl, hb⟩
  have HL1 := Lib.hid (HH.out.below _ _ HL0.out hb)
  have HB1 := Lib.hid (below_then5 HB0.out hb)
  clear hb HL0 HB0
  go_wp2_with fail
  refine (rNext_any s _ (by omega)).mono ?_
  rintro e w2 ⟨rfl, hb⟩
  have HL2 := Lib.hid (HH.out.below _ _ HL1.out hb)
  have HB2 := Lib.hid (below_then5 HB1.out hb)
  clear hb HL1 HB1
  generalize kNextS s = q at *
  obtain ⟨q1, q2⟩ := q
  go_wp2_with fail
  refine (HH.out.name m _ h0 h1 HL2.out).mono ?_
  rintro e w3 ⟨rfl, hb⟩
  have HL3 := Lib.hid (HH.out.below _ _ HL2.out hb)
  have HB3 := Lib.hid (below_then5 HB2.out hb)
  clear hb HL2 HB2
  go_wp2_with fail
  refine (rName_any m _).mono ?_
  rintro e w4 ⟨rfl, hb⟩
  have HL4 := Lib.hid (HH.out.below _ _ HL3.out hb)
  have HB4 := Lib.hid (below_then5 HB3.out hb)
  clear hb HL3 HB3
  generalize kName m = u at *
  obtain ⟨u1, u2⟩ := u
  go_wp2_with fail
  refine (works5_any HH.out _ HL4.out).mono ?_
  rintro e w5 ⟨rfl, hb⟩
  go_wp2_with fail
  go_ret
  exact ⟨rfl, below_then5 HB4.out hb⟩
end Go.Proofs.YtogkabdampkbjaaDoor
