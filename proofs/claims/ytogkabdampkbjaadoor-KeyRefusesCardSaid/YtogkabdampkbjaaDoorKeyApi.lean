/- What the laws of stage 5 ask of package key and of Go's library, and the example 'works'. -/
import Derived.Test.YtogkabdampkbjaaDoorKeyRef3
import Derived.Lib.Repeat
import Derived.Lib.Bytealg
namespace Go.Proofs.YtogkabdampkbjaaDoor
open Go Go.RowKit

/-- A string, repeated. -/
def repS (s : ByteArray) (c : Nat) : ByteArray := ⟨(Lib.repeatL s.data.toList c).toArray⟩

/-- The contracts of package key and of the library's functions that the laws call, in worlds in which the variables that they read hold what the program's text lays. -/
structure KeyOk (L : World → Prop) : Prop where
  below : ∀ w w', L w → Below w.heap.size w w' → L w'
  check : ∀ (s : ByteArray) w, s.size ≤ 1000000 → L w → Calls Tryd.prog 12 #[.string s] w fun e w' => e = .returned (.int .i64 (kCheck (numS s))) ∧ Below w.heap.size w w'
  fits : ∀ (s : ByteArray) (m : Int) w, s.size ≤ 1000000 → -9223372036854775808 ≤ m → m ≤ 9223372036854775807 → L w → Calls Tryd.prog 14 #[.string s, .int .i64 m] w fun e w' => e = .returned (.int .i64 (kFits (numS s) m)) ∧ Below w.heap.size w w'
  order : ∀ (a b : ByteArray) w, a.size ≤ 1000000 → b.size ≤ 1000000 → L w → Calls Tryd.prog 16 #[.string a, .string b] w fun e w' => e = .returned (.int .i64 (ordL (numS a) (numS b))) ∧ Below w.heap.size w w'
  common : ∀ (a b : ByteArray) w, a.size ≤ 1000000 → b.size ≤ 1000000 → L w → Calls Tryd.prog 18 #[.string a, .string b] w fun e w' => e = .returned (.int .i64 (comL (numS a) (numS b) : Nat)) ∧ Below w.heap.size w w'
  next : ∀ (s : ByteArray) w, s.size ≤ 1000000 → L w → Calls Tryd.prog 20 #[.string s] w fun e w' => e = .returned (.tuple #[.string (kNextS s).1, .bool (kNextS s).2]) ∧ Below w.heap.size w w'
  name : ∀ (n : Int) w, -9223372036854775808 ≤ n → n ≤ 9223372036854775807 → L w → Calls Tryd.prog 22 #[.int .i64 n] w fun e w' => e = .returned (.tuple #[.string (kName n).1, .int .i64 (kName n).2]) ∧ Below w.heap.size w w'
  rep : ∀ (s : ByteArray) (c : Nat) w, s.size * c ≤ 1000000 → c ≤ 1000000 → L w → Calls Tryd.prog 25 #[.string s, .int .i64 c] w fun e w' => e = .returned (.string (repS s c)) ∧ Below w.heap.size w w'
  idx : ∀ (s : ByteArray) (c : Int) w, L w → Calls Tryd.prog 26 #[.string s, .int .u8 c] w fun e w' => e = .returned (.int .i64 (Lib.indexByte s.data.toList c.toNat.toUInt8)) ∧ Below w.heap.size w w'
  itoa : ∀ (n : Nat) w, n ≤ 1000000000 → L w → Calls Tryd.prog 27 #[.int .i64 n] w fun e w' => e = .returned (.string ⟨(Lib.decDigits n).toArray⟩) ∧ Below w.heap.size w w'

theorem KeyOk.checkv {L : World → Prop} (H : KeyOk L) {s : ByteArray} {w : World} (v : Int) (hs : s.size ≤ 1000000) (hL : L w) (hv : kCheck (numS s) = v) :
    Calls Tryd.prog 12 #[.string s] w fun e w' => e = .returned (.int .i64 v) ∧ L w' ∧ Below w.heap.size w w' :=
  (H.check s w hs hL).mono fun e w' ⟨he, hb⟩ => ⟨by rw [he, hv], H.below w w' hL hb, hb⟩
theorem KeyOk.fitsv {L : World → Prop} (H : KeyOk L) {s : ByteArray} {m : Int} {w : World} (v : Int) (hs : s.size ≤ 1000000) (h0 : -9223372036854775808 ≤ m) (h1 : m ≤ 9223372036854775807) (hL : L w) (hv : kFits (numS s) m = v) :
    Calls Tryd.prog 14 #[.string s, .int .i64 m] w fun e w' => e = .returned (.int .i64 v) ∧ L w' ∧ Below w.heap.size w w' :=
  (H.fits s m w hs h0 h1 hL).mono fun e w' ⟨he, hb⟩ => ⟨by rw [he, hv], H.below w w' hL hb, hb⟩
theorem KeyOk.orderv {L : World → Prop} (H : KeyOk L) {a b : ByteArray} {w : World} (v : Int) (ha : a.size ≤ 1000000) (hb : b.size ≤ 1000000) (hL : L w) (hv : ordL (numS a) (numS b) = v) :
    Calls Tryd.prog 16 #[.string a, .string b] w fun e w' => e = .returned (.int .i64 v) ∧ L w' ∧ Below w.heap.size w w' :=
  (H.order a b w ha hb hL).mono fun e w' ⟨he, hb⟩ => ⟨by rw [he, hv], H.below w w' hL hb, hb⟩
theorem KeyOk.commonv {L : World → Prop} (H : KeyOk L) {a b : ByteArray} {w : World} (v : Int) (ha : a.size ≤ 1000000) (hb : b.size ≤ 1000000) (hL : L w) (hv : (comL (numS a) (numS b) : Int) = v) :
    Calls Tryd.prog 18 #[.string a, .string b] w fun e w' => e = .returned (.int .i64 v) ∧ L w' ∧ Below w.heap.size w w' :=
  (H.common a b w ha hb hL).mono fun e w' ⟨he, hb⟩ => ⟨by rw [he, hv], H.below w w' hL hb, hb⟩
theorem KeyOk.nextv {L : World → Prop} (H : KeyOk L) {s : ByteArray} {w : World} (t : ByteArray) (v : Bool) (hs : s.size ≤ 1000000) (hL : L w) (hv : kNextS s = (t, v)) :
    Calls Tryd.prog 20 #[.string s] w fun e w' => e = .returned (.tuple #[.string t, .bool v]) ∧ L w' ∧ Below w.heap.size w w' :=
  (H.next s w hs hL).mono fun e w' ⟨he, hb⟩ => ⟨by rw [he, hv], H.below w w' hL hb, hb⟩
theorem KeyOk.namev {L : World → Prop} (H : KeyOk L) {n : Int} {w : World} (t : ByteArray) (v : Int) (h0 : -9223372036854775808 ≤ n) (h1 : n ≤ 9223372036854775807) (hL : L w) (hv : kName n = (t, v)) :
    Calls Tryd.prog 22 #[.int .i64 n] w fun e w' => e = .returned (.tuple #[.string t, .int .i64 v]) ∧ L w' ∧ Below w.heap.size w w' :=
  (H.name n w h0 h1 hL).mono fun e w' ⟨he, hb⟩ => ⟨by rw [he, hv], H.below w w' hL hb, hb⟩
theorem KeyOk.repv {L : World → Prop} (H : KeyOk L) {s : ByteArray} (c : Nat) {w : World} {z : Int} (t : ByteArray) (hz : z = (c : Int)) (h0 : s.size * c ≤ 1000000) (h1 : c ≤ 1000000) (hL : L w) (hv : repS s c = t) :
    Calls Tryd.prog 25 #[.string s, .int .i64 z] w fun e w' => e = .returned (.string t) ∧ L w' ∧ Below w.heap.size w w' := by
  subst hz
  exact (H.rep s c w h0 h1 hL).mono fun e w' ⟨he, hb⟩ => ⟨by rw [he, hv], H.below w w' hL hb, hb⟩

theorem below_then5 {a b c : World} (h : Below a.heap.size a b) (k : Below b.heap.size b c) : Below a.heap.size a c := h.trans (k.mono h.size)

/-- What the example is made of. -/
structure ExK (a31 a30 z32 a33 : ByteArray) : Prop where
  r31 : repS ⟨#[97]⟩ 31 = a31
  r30 : repS ⟨#[97]⟩ 30 = a30
  rz : repS ⟨#[122]⟩ 32 = z32
  r33 : repS ⟨#[97]⟩ 33 = a33
  s31 : a31.size = 31
  s30 : a30.size = 30
  sz : z32.size = 32
  s33 : a33.size = 33
  n2 : kNextS (a31 ++ ⟨#[122]⟩) = (a30 ++ ⟨#[98]⟩, true)
  n3 : kNextS z32 = (⟨#[]⟩, false)
  c33 : kCheck (numS a33) = 12

theorem exK : ∃ a31 a30 z32 a33, ExK a31 a30 z32 a33 :=
  ⟨_, _, _, _, rfl, rfl, rfl, rfl, by decide +kernel, by decide +kernel, by decide +kernel, by decide +kernel, by decide +kernel, by decide +kernel, by decide +kernel⟩

theorem name_big : kName 999999 = (⟨#[107, 57, 57, 57, 57, 57, 57]⟩, 0) := by
  have h : Lib.decDigits 999999 = [57, 57, 57, 57, 57, 57] := by
    repeat (rw [Lib.decDigits]; first | rw [dif_pos (by decide)] | rw [dif_neg (by decide)])
    decide +kernel
  unfold kName
  rw [if_neg (by decide), show (999999 : Int).toNat = 999999 from rfl, h]
  decide +kernel

set_option maxHeartbeats 3200000 in
set_option maxRecDepth 100000 in
theorem works5_any {L : World → Prop} (H : KeyOk L) (w : World) (h : L w) :
    Calls Tryd.prog 11 #[] w fun e w' => e = .returned (.bool true) ∧ Below w.heap.size w w' := by
  have HL0 := Lib.hid h
  have HB0 := Lib.hid (Below.refl w.heap.size w)
  have HH := Lib.hid H
  obtain ⟨a31, a30, z32, a33, hx⟩ := exK
  have HX := Lib.hid hx
  have hs31 := hx.s31
  have hs30 := hx.s30
  clear h H hx
  go_enter Tryd.func11, Tryd.ntmps11
  go_wp2_with fail
  refine (HH.out.nextv ⟨#[97, 45]⟩ true (by decide) HL0.out (by decide +kernel)).mono ?_
  rintro e w1 ⟨rfl, hl, hb⟩
  have HL1 := Lib.hid hl
  have HB1 := Lib.hid (below_then5 HB0.out hb)
  clear hl hb HL0 HB0
  go_wp2_with fail
  refine (HH.out.repv 31 a31 rfl (by decide) (by decide) HL1.out HX.out.r31).mono ?_
  rintro e w2 ⟨rfl, hl, hb⟩
  have HL2 := Lib.hid hl
  have HB2 := Lib.hid (below_then5 HB1.out hb)
  clear hl hb HL1 HB1
  go_wp2_with fail
  refine (HH.out.nextv (a30 ++ ⟨#[98]⟩) true (by rw [ByteArray.size_append, HX.out.s31]; decide) HL2.out HX.out.n2).mono ?_
  rintro e w3 ⟨rfl, hl, hb⟩
  have HL3 := Lib.hid hl
  have HB3 := Lib.hid (below_then5 HB2.out hb)
  clear hl hb HL2 HB2
  go_wp2_with fail
  refine (HH.out.repv 32 z32 rfl (by decide) (by decide) HL3.out HX.out.rz).mono ?_
  rintro e w4 ⟨rfl, hl, hb⟩
  have HL4 := Lib.hid hl
  have HB4 := Lib.hid (below_then5 HB3.out hb)
  clear hl hb HL3 HB3
  go_wp2_with fail
  refine (HH.out.nextv ⟨#[]⟩ false (by rw [HX.out.sz]; decide) HL4.out HX.out.n3).mono ?_
  rintro e w5 ⟨rfl, hl, hb⟩
  have HL5 := Lib.hid hl
  have HB5 := Lib.hid (below_then5 HB4.out hb)
  clear hl hb HL4 HB4
  go_wp2_with fail
  refine (HH.out.namev _ _ (by decide) (by decide) HL5.out name_big).mono ?_
  rintro e w6 ⟨rfl, hl, hb⟩
  have HL6 := Lib.hid hl
  have HB6 := Lib.hid (below_then5 HB5.out hb)
  clear hl hb HL5 HB5
  go_wp2_with fail
  refine (HH.out.namev ⟨#[]⟩ 3 (by decide) (by decide) HL6.out (by decide)).mono ?_
  rintro e w7 ⟨rfl, hl, hb⟩
  have HL7 := Lib.hid hl
  have HB7 := Lib.hid (below_then5 HB6.out hb)
  clear hl hb HL6 HB6
  go_wp2_with fail
  refine (HH.out.checkv 0 (by decide) HL7.out (by decide +kernel)).mono ?_
  rintro e w8 ⟨rfl, hl, hb⟩
  have HL8 := Lib.hid hl
  have HB8 := Lib.hid (below_then5 HB7.out hb)
  clear hl hb HL7 HB7
  go_wp2_with fail
  refine (HH.out.checkv 2 (by decide) HL8.out (by decide +kernel)).mono ?_
  rintro e w9 ⟨rfl, hl, hb⟩
  have HL9 := Lib.hid hl
  have HB9 := Lib.hid (below_then5 HB8.out hb)
  clear hl hb HL8 HB8
  go_wp2_with fail
  refine (HH.out.checkv 2 (by decide) HL9.out (by decide +kernel)).mono ?_
  rintro e w10 ⟨rfl, hl, hb⟩
  have HL10 := Lib.hid hl
  have HB10 := Lib.hid (below_then5 HB9.out hb)
  clear hl hb HL9 HB9
  go_wp2_with fail
  refine (HH.out.repv 33 a33 rfl (by decide) (by decide) HL10.out HX.out.r33).mono ?_
  rintro e w11 ⟨rfl, hl, hb⟩
  have HL11 := Lib.hid hl
  have HB11 := Lib.hid (below_then5 HB10.out hb)
  clear hl hb HL10 HB10
  go_wp2_with fail
  refine (HH.out.checkv 12 (by rw [HX.out.s33]; decide) HL11.out HX.out.c33).mono ?_
  rintro e w12 ⟨rfl, hl, hb⟩
  have HL12 := Lib.hid hl
  have HB12 := Lib.hid (below_then5 HB11.out hb)
  clear hl hb HL11 HB11
  go_wp2_with fail
  refine (HH.out.fitsv 12 (by decide) (by decide) (by decide) HL12.out (by decide +kernel)).mono ?_
  rintro e w13 ⟨rfl, hl, hb⟩
  have HL13 := Lib.hid hl
  have HB13 := Lib.hid (below_then5 HB12.out hb)
  clear hl hb HL12 HB12
  go_wp2_with fail
  refine (HH.out.orderv (-1) (by decide) (by decide) HL13.out (by decide +kernel)).mono ?_
  rintro e w14 ⟨rfl, hl, hb⟩
  have HL14 := Lib.hid hl
  have HB14 := Lib.hid (below_then5 HB13.out hb)
  clear hl hb HL13 HB13
  go_wp2_with fail
  refine (HH.out.commonv 2 (by decide) (by decide) HL14.out (by decide +kernel)).mono ?_
  rintro e w15 ⟨rfl, hl, hb⟩
  have HL15 := Lib.hid hl
  have HB15 := Lib.hid (below_then5 HB14.out hb)
  clear hl hb HL14 HB14
  go_wp2_with fail
  refine (HH.out.repv 30 a30 rfl (by decide) (by decide) HL15.out HX.out.r30).mono ?_
  rintro e w16 ⟨rfl, hl, hb⟩
  have HL16 := Lib.hid hl
  have HB16 := Lib.hid (below_then5 HB15.out hb)
  clear hl hb HL15 HB15
  go_wp2_with fail
  go_ret
  exact ⟨rfl, HB16.out⟩
end Go.Proofs.YtogkabdampkbjaaDoor
