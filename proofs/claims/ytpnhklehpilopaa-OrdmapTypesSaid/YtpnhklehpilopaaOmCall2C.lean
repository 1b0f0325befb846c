/- What the calls on an ordered map answer, and what they leave: Delete, the nearest keys, indexes. -/
import Derived.Test.YtpnhklehpilopaaOmCallC
import Derived.Test.YtpnhklehpilopaaOmMath2
namespace Go.Proofs.Ytpnhklehpilopaa
open Go Go.RowKit

theorem cut_mapC (l : List (Int × Int)) (r : Nat) : (l.map celC).take r ++ (l.map celC).drop (r + 1) = (l.take r ++ l.drop (r + 1)).map celC := by
  rw [← List.map_take, ← List.map_drop]; simp

/-- Set, whether or not the map had the key. -/
theorem setC {W : World} {base b : Nat} {p : Option Addr} {c : Nat} {l : List (Int × Int)} (h : MapC W base b p c l) (hn : l.length ≤ 1000000) (k : Int) (x : Int) (hbase : base ≤ W.heap.size) :
    Calls Try.prog 37 #[.pointer (some ⟨b, 0, none⟩), Value.int .i64 k, Value.int .i64 x] W fun e w' => e = .returned (.tuple #[Value.int .i64 ((kGet l k).getD (0 : Int)), .bool (kHas l k), .int .i64 0]) ∧
      ∃ p' c', MapC w' base b p' c' (kSet ltI l k x) ∧ Touch b p W w' ∧ Head p p' W.heap.size := by
  cases hh : kHas l k with
  | false =>
    rw [kGet_none hh, kSet, if_neg (by rw [hh]; decide)]
    exact setNewC h hn k x hh hbase
  | true =>
    obtain ⟨v, hv⟩ := (has_at_rank ordI h.srt k).1 hh
    rw [kGet_some ordI h.srt hv, kSet, if_pos hh]
    exact (setHasC h hn k x v hv).mono fun e w' ⟨he, hm, ht⟩ => ⟨he, p, c, hm, ht, Head.refl _ _⟩

set_option maxHeartbeats 800000 in
set_option maxRecDepth 100000 in
theorem delNoneC {W : World} {base b : Nat} {p : Option Addr} {c : Nat} {l : List (Int × Int)} (h : MapC W base b p c l) (hn : l.length ≤ 1000000) (k : Int) (hf0 : kHas l k = false) :
    Calls Try.prog 36 #[.pointer (some ⟨b, 0, none⟩), Value.int .i64 k] W fun e w' => e = .returned (.tuple #[.int .i64 0, .bool false]) ∧ Below W.heap.size W w' := by
  have hf := findC h hn k
  rw [hf0] at hf
  clear h hf0
  go_enter Try.func36, Try.ntmps36
  go_wp2_with (go_at_call 127; refine hf.mono ?_; rintro e w1 ⟨rfl, hb⟩)
  go_ret2
  exact ⟨rfl, hb⟩

set_option maxHeartbeats 800000 in
set_option maxRecDepth 100000 in
theorem delHasC {W : World} {base b : Nat} {p : Option Addr} {c : Nat} {l : List (Int × Int)} (h : MapC W base b p c l) (hn : l.length ≤ 1000000) (k : Int) (v : Int) (hx : l[kRank ltI l k]? = some (k, v)) :
    Calls Try.prog 36 #[.pointer (some ⟨b, 0, none⟩), Value.int .i64 k] W fun e w' => e = .returned (.tuple #[Value.int .i64 v, .bool true]) ∧
      ∃ p' c', MapC w' base b p' c' (l.take (kRank ltI l k) ++ l.drop (kRank ltI l k + 1)) ∧ Touch b p W w' ∧ Head p p' W.heap.size := by
  have hf := findC h hn k
  rw [(has_at_rank ordI h.srt k).2 ⟨v, hx⟩] at hf
  have H := Lib.hid h
  have HS := Lib.hid (srt_cut h.srt (kRank ltI l k))
  have hj : kRank ltI l k < l.length := (List.getElem?_eq_some_iff.1 hx).1
  clear h
  generalize hrk : kRank ltI l k = r at *
  have HX := Lib.hid hx
  clear hrk hx
  go_enter Try.func36, Try.ntmps36
  go_wp2_with fail
  refine hf.mono ?_
  rintro e w1 ⟨rfl, hb⟩
  have hM := H.out.below hb
  obtain ⟨g, rfl, hc, hk, hvv⟩ := hM.at HX.out
  have hp := hM.pairs
  have hdel := delC base _ _ r _ hM.row (by simpa using hj) (by simpa using hn)
  rw [cut_mapC] at hdel
  have HM := Lib.hid hM
  have HL := Lib.hid hn
  have hr0 : (0 : Int) ≤ (r : Int) := by omega
  have hr1 : (r : Int) < (l.length : Int) := by omega
  clear hM hk
  go_wp2_with fail
  refine hdel.mono ?_
  rintro e w3 ⟨v', rfl, hrow, hgrow, hhead⟩
  obtain ⟨p', c', rfl, hc1, hf1, hmap, htouch, hhd⟩ := HM.out.newRow hgrow hrow (.inl hhead) HS.out
  have HT := Lib.hid htouch
  have HMP := Lib.hid hmap
  have HHD := Lib.hid hhd
  have HB := Lib.hid hb
  clear hdel hrow hgrow hhead hmap htouch hhd hb
  generalize (l.take r ++ l.drop (r + 1)).length = n' at *
  go_wp2
  go_ret2
  exact ⟨rfl, p', c', HMP.out, (Touch.of_below HB.out).trans HT.out, HHD.out.mono HB.out.size⟩

/-- Delete, whether or not the map had the key. -/
theorem deleteC {W : World} {base b : Nat} {p : Option Addr} {c : Nat} {l : List (Int × Int)} (h : MapC W base b p c l) (hn : l.length ≤ 1000000) (k : Int) :
    Calls Try.prog 36 #[.pointer (some ⟨b, 0, none⟩), Value.int .i64 k] W fun e w' => e = .returned (.tuple #[Value.int .i64 ((kGet l k).getD (0 : Int)), .bool (kHas l k)]) ∧
      ∃ p' c', MapC w' base b p' c' (kDel ltI l k) ∧ Touch b p W w' ∧ Head p p' W.heap.size := by
  cases hh : kHas l k with
  | false =>
    rw [kGet_none hh, kDel, if_neg (by rw [hh]; decide)]
    exact (delNoneC h hn k hh).mono fun e w' ⟨he, hb⟩ => ⟨he, p, c, h.below hb, Touch.of_below hb, Head.refl _ _⟩
  | true =>
    obtain ⟨v, hv⟩ := (has_at_rank ordI h.srt k).1 hh
    rw [kGet_some ordI h.srt hv, kDel, if_pos hh]
    exact delHasC h hn k v hv

/-- What a question for a key with its value answers. -/
def tupC : Option (Int × Int) → Value
  | some x => .tuple #[Value.int .i64 x.1, Value.int .i64 x.2, .bool true]
  | none => .tuple #[.int .i64 0, .int .i64 0, .bool false]

theorem pickAtC {W : World} {base b : Nat} {p : Option Addr} {c : Nat} {l : List (Int × Int)} (h : MapC W base b p c l) (j : Int) (o : Option (Int × Int)) (ho : o = if 0 ≤ j then l[j.toNat]? else none) :
    Calls Try.prog 125 #[.pointer (some ⟨b, 0, none⟩), .int .i64 j] W fun e w' => e = .returned (tupC o) ∧ Below W.heap.size W w' := by
  subst ho
  by_cases hj : 0 ≤ j
  · obtain ⟨n, rfl⟩ := Int.eq_ofNat_of_zero_le hj
    rw [if_pos hj, Int.toNat_natCast]
    cases hx : l[n]? with
    | none => exact pickNoneC h _ (.inr (by have := List.getElem?_eq_none_iff.1 hx; omega))
    | some x => exact pickC h n x hx
  · rw [if_neg hj]
    exact pickNoneC h _ (.inl (by omega))

/-- What At answers. -/
def tupEC : Option (Int × Int) → Value
  | some x => .tuple #[Value.int .i64 x.1, Value.int .i64 x.2, .int .i64 0]
  | none => .tuple #[.int .i64 0, .int .i64 0, .int .i64 3]

set_option maxHeartbeats 800000 in
set_option maxRecDepth 100000 in
theorem atC {W : World} {base b : Nat} {p : Option Addr} {c : Nat} {l : List (Int × Int)} (h : MapC W base b p c l) (j : Int) (o : Option (Int × Int)) (ho : o = if 0 ≤ j then l[j.toNat]? else none) :
    Calls Try.prog 32 #[.pointer (some ⟨b, 0, none⟩), .int .i64 j] W fun e w' => e = .returned (tupEC o) ∧ Below W.heap.size W w' := by
  have hp := pickAtC h j o ho
  have H := Lib.hid h
  have HO := Lib.hid ho
  clear h ho
  cases o with
  | none =>
    rw [tupC] at hp
    rw [tupEC]
    go_enter Try.func32, Try.ntmps32
    go_wp2_with fail
    refine hp.mono ?_
    rintro e w1 ⟨rfl, hb⟩
    have hv := validC (H.out.below hb)
    go_wp2_with (go_at_call 126; refine hv.mono ?_; rintro e w2 ⟨rfl, rfl⟩)
    go_ret3
    exact ⟨rfl, hb⟩
  | some x =>
    obtain ⟨k', v⟩ := x
    rw [tupC] at hp
    rw [tupEC]
    go_enter Try.func32, Try.ntmps32
    go_wp2_with fail
    refine hp.mono ?_
    rintro e w1 ⟨rfl, hb⟩
    have hv := validC (H.out.below hb)
    go_wp2_with (go_at_call 126; refine hv.mono ?_; rintro e w2 ⟨rfl, rfl⟩)
    go_ret3
    exact ⟨rfl, hb⟩
end Go.Proofs.Ytpnhklehpilopaa
