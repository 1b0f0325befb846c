/- What the laws of stage 6 ask of package value, and the example 'works'. -/
import Derived.Test.YtjadlianlnaomaaDoorValRef4
namespace Go.Proofs.YtjadlianlnaomaaDoor
open Go Go.RowKit

/-- The contracts of package value, in worlds in which the variables that it reads hold what the program's text lays. -/
structure ValOk (L : World → Prop) : Prop where
  below : ∀ w w', L w → Below w.heap.size w w' → L w'
  check : ∀ (s : ByteArray) (m : Int) w, s.size ≤ 1000000 → -9223372036854775808 ≤ m → m ≤ 9223372036854775807 → L w → Calls Tryd.prog 14 #[.string s, .int .i64 m] w fun e w' => e = .returned (.int .i64 (vCheck s.size m)) ∧ Below w.heap.size w w'
  text : ∀ (s : ByteArray) w, s.size ≤ 1000000 → L w → Calls Tryd.prog 16 #[.string s] w fun e w' => e = .returned (.tuple #[.string (vTextS s), .int .i64 (vTextE s)]) ∧ Below w.heap.size w w'
  parse : ∀ (s : ByteArray) w, s.size ≤ 1000000 → L w → Calls Tryd.prog 18 #[.string s] w fun e w' => e = .returned (.tuple #[.string (vParse s).1, .int .i64 (vParse s).2]) ∧ Below w.heap.size w w'
  rep : ∀ (s : ByteArray) (n : Int) w, s.size ≤ 1000000 → -9223372036854775808 ≤ n → n ≤ 9223372036854775807 → L w → Calls Tryd.prog 20 #[.string s, .int .i64 n] w fun e w' => e = .returned (.tuple #[.string (vRepeat s n).1, .int .i64 (vRepeat s n).2]) ∧ Below w.heap.size w w'
  short : ∀ (s : ByteArray) w, s.size < 1000000 → L w → Calls Tryd.prog 22 #[.string s] w fun e w' => e = .returned (.string (vShort s)) ∧ Below w.heap.size w w'

theorem ValOk.checkv {L : World → Prop} (H : ValOk L) {s : ByteArray} {m : Int} {w : World} (v : Int) (hs : s.size ≤ 1000000) (h0 : -9223372036854775808 ≤ m) (h1 : m ≤ 9223372036854775807) (hL : L w) (hv : vCheck s.size m = v) :
    Calls Tryd.prog 14 #[.string s, .int .i64 m] w fun e w' => e = .returned (.int .i64 v) ∧ L w' ∧ Below w.heap.size w w' :=
  (H.check s m w hs h0 h1 hL).mono fun e w' ⟨he, hb⟩ => ⟨by rw [he, hv], H.below w w' hL hb, hb⟩

theorem ValOk.textv {L : World → Prop} (H : ValOk L) {s : ByteArray} {w : World} (t : ByteArray) (v : Int) (hs : s.size ≤ 1000000) (hL : L w) (ht : vTextS s = t) (hv : vTextE s = v) :
    Calls Tryd.prog 16 #[.string s] w fun e w' => e = .returned (.tuple #[.string t, .int .i64 v]) ∧ L w' ∧ Below w.heap.size w w' :=
  (H.text s w hs hL).mono fun e w' ⟨he, hb⟩ => ⟨by rw [he, ht, hv], H.below w w' hL hb, hb⟩

theorem ValOk.parsev {L : World → Prop} (H : ValOk L) {s : ByteArray} {w : World} (t : ByteArray) (v : Int) (hs : s.size ≤ 1000000) (hL : L w) (ht : vParse s = (t, v)) :
    Calls Tryd.prog 18 #[.string s] w fun e w' => e = .returned (.tuple #[.string t, .int .i64 v]) ∧ L w' ∧ Below w.heap.size w w' :=
  (H.parse s w hs hL).mono fun e w' ⟨he, hb⟩ => ⟨by rw [he, ht], H.below w w' hL hb, hb⟩

theorem ValOk.repv {L : World → Prop} (H : ValOk L) {s : ByteArray} {n : Int} {w : World} (t : ByteArray) (v : Int) (hs : s.size ≤ 1000000) (h0 : -9223372036854775808 ≤ n) (h1 : n ≤ 9223372036854775807) (hL : L w) (ht : vRepeat s n = (t, v)) :
    Calls Tryd.prog 20 #[.string s, .int .i64 n] w fun e w' => e = .returned (.tuple #[.string t, .int .i64 v]) ∧ L w' ∧ Below w.heap.size w w' :=
  (H.rep s n w hs h0 h1 hL).mono fun e w' ⟨he, hb⟩ => ⟨by rw [he, ht], H.below w w' hL hb, hb⟩

theorem ValOk.shortv {L : World → Prop} (H : ValOk L) {s : ByteArray} {w : World} (t : ByteArray) (hs : s.size < 1000000) (hL : L w) (ht : vShort s = t) :
    Calls Tryd.prog 22 #[.string s] w fun e w' => e = .returned (.string t) ∧ L w' ∧ Below w.heap.size w w' :=
  (H.short s w hs hL).mono fun e w' ⟨he, hb⟩ => ⟨by rw [he, ht], H.below w w' hL hb, hb⟩

theorem short_nine : vShort ⟨#[97, 97, 97, 97, 97, 97, 97, 97, 97]⟩ = ⟨#[57, 58, 54, 49, 54, 49, 54, 49, 54, 49, 54, 49, 54, 49, 54, 49, 54, 49, 46, 46]⟩ := by
  unfold vShort
  rw [if_pos (by decide)]
  rw [show (ByteArray.mk #[97, 97, 97, 97, 97, 97, 97, 97, 97]).size = 9 from rfl, decS_small 9 (by decide)]
  decide +kernel

set_option maxHeartbeats 3200000 in
set_option maxRecDepth 100000 in
theorem works6_any {L : World → Prop} (H : ValOk L) (w : World) (h : L w) :
    Calls Tryd.prog 13 #[] w fun e w' => e = .returned (.bool true) ∧ Below w.heap.size w w' := by
  have HL := Lib.hid h
  have HH := Lib.hid H
  clear h H
  go_enter Tryd.func13, Tryd.ntmps13
  go_wp2_with fail
  refine (HH.out.textv ⟨#[54, 49, 54, 50]⟩ 0 (by decide) HL.out (by decide +kernel) (by decide)).mono ?_
  rintro e w1 ⟨rfl, hl, hb⟩
  have HL1 := Lib.hid hl
  have HB1 := Lib.hid hb
  clear hl hb HL
  go_wp2_with fail
  refine (HH.out.textv ⟨#[45]⟩ 0 (by decide) HL1.out (by decide +kernel) (by decide)).mono ?_
  rintro e w2 ⟨rfl, hl, hb⟩
  have HL2 := Lib.hid hl
  have HB2 := Lib.hid (below_then2 HB1.out hb)
  clear hl hb HL1 HB1
  go_wp2_with fail
  refine (HH.out.parsev ⟨#[0, 255]⟩ 0 (by decide) HL2.out (by decide +kernel)).mono ?_
  rintro e w3 ⟨rfl, hl, hb⟩
  have HL3 := Lib.hid hl
  have HB3 := Lib.hid (below_then2 HB2.out hb)
  clear hl hb HL2 HB2
  go_wp2_with fail
  refine (HH.out.parsev ⟨#[]⟩ 8 (by decide) HL3.out (by decide +kernel)).mono ?_
  rintro e w4 ⟨rfl, hl, hb⟩
  have HL4 := Lib.hid hl
  have HB4 := Lib.hid (below_then2 HB3.out hb)
  clear hl hb HL3 HB3
  go_wp2_with fail
  refine (HH.out.repv ⟨#[97, 98, 99, 97, 98, 99, 97]⟩ 0 (by decide) (by decide) (by decide) HL4.out (by decide +kernel)).mono ?_
  rintro e w5 ⟨rfl, hl, hb⟩
  have HL5 := Lib.hid hl
  have HB5 := Lib.hid (below_then2 HB4.out hb)
  clear hl hb HL4 HB4
  go_wp2_with fail
  refine (HH.out.checkv 12 (by decide) (by decide) (by decide) HL5.out (by decide)).mono ?_
  rintro e w6 ⟨rfl, hl, hb⟩
  have HL6 := Lib.hid hl
  have HB6 := Lib.hid (below_then2 HB5.out hb)
  clear hl hb HL5 HB5
  go_wp2_with fail
  refine (HH.out.shortv _ (by decide) HL6.out short_nine).mono ?_
  rintro e w7 ⟨rfl, hl, hb⟩
  have HB7 := Lib.hid (below_then2 HB6.out hb)
  clear hl hb HL6 HB6
  go_wp2_with fail
  go_ret
  exact ⟨rfl, HB7.out⟩
end Go.Proofs.YtjadlianlnaomaaDoor
