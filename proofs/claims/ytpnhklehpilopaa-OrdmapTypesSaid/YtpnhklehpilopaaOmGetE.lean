/- Get. -/
import Derived.Test.YtpnhklehpilopaaOmCallE
namespace Go.Proofs.Ytpnhklehpilopaa
open Go Go.RowKit

attribute [local go_sem] Oper.semAt_some

set_option maxHeartbeats 800000 in
set_option maxRecDepth 100000 in
theorem getHasE {W : World} {base b : Nat} {p : Option Addr} {c : Nat} {l : List (Int × Option Addr)} (h : MapE W base b p c l) (hn : l.length ≤ 1000000) (k : Int) (v : Option Addr) (hx : l[kRank ltI l k]? = some (k, v)) :
    Calls Try.prog 45 #[.pointer (some ⟨b, 0, none⟩), Value.int .u8 k] W fun e w' => e = .returned (.tuple #[Value.pointer v, .bool true]) ∧ Below W.heap.size W w' := by
  have hf := findE h hn k
  rw [(has_at_rank ordI h.srt k).2 ⟨v, hx⟩] at hf
  have H := Lib.hid h
  have hj : kRank ltI l k < l.length := (List.getElem?_eq_some_iff.1 hx).1
  clear h
  generalize hrk : kRank ltI l k = r at *
  have HX := Lib.hid hx
  clear hrk hx
  go_enter Try.func45, Try.ntmps45
  go_wp2_with fail
  refine hf.mono ?_
  rintro e w1 ⟨rfl, hb⟩
  have hM := H.out.below hb
  obtain ⟨g, rfl, hc, hk, hvv⟩ := hM.at HX.out
  have hp := hM.pairs
  have hr0 : (0 : Int) ≤ (r : Int) := by omega
  have hr1 : (r : Int) < (l.length : Int) := by omega
  clear hM hk hf
  generalize l.length = n at *
  go_wp2
  go_ret2
  exact ⟨rfl, hb⟩

set_option maxHeartbeats 800000 in
set_option maxRecDepth 100000 in
theorem getNoneE {W : World} {base b : Nat} {p : Option Addr} {c : Nat} {l : List (Int × Option Addr)} (h : MapE W base b p c l) (hn : l.length ≤ 1000000) (k : Int) (hf0 : kHas l k = false) :
    Calls Try.prog 45 #[.pointer (some ⟨b, 0, none⟩), Value.int .u8 k] W fun e w' => e = .returned (.tuple #[.pointer none, .bool false]) ∧ Below W.heap.size W w' := by
  have hf := findE h hn k
  rw [hf0] at hf
  clear h hf0
  go_enter Try.func45, Try.ntmps45
  go_wp2_with (go_at_call 134; refine hf.mono ?_; rintro e w1 ⟨rfl, hb⟩)
  go_ret2
  exact ⟨rfl, hb⟩

theorem getE {W : World} {base b : Nat} {p : Option Addr} {c : Nat} {l : List (Int × Option Addr)} (h : MapE W base b p c l) (hn : l.length ≤ 1000000) (k : Int) :
    Calls Try.prog 45 #[.pointer (some ⟨b, 0, none⟩), Value.int .u8 k] W fun e w' => e = .returned (.tuple #[Value.pointer ((kGet l k).getD (none : Option Addr)), .bool (kHas l k)]) ∧ Below W.heap.size W w' := by
  cases hh : kHas l k with
  | false =>
    rw [kGet_none hh]
    exact getNoneE h hn k hh
  | true =>
    obtain ⟨v, hv⟩ := (has_at_rank ordI h.srt k).1 hh
    rw [kGet_some ordI h.srt hv]
    exact getHasE h hn k v hv

theorem setE {W : World} {base b : Nat} {p : Option Addr} {c : Nat} {l : List (Int × Option Addr)} (h : MapE W base b p c l) (hn : l.length ≤ 1000000) (k : Int) (x : Option Addr) (hbase : base ≤ W.heap.size) :
    Calls Try.prog 42 #[.pointer (some ⟨b, 0, none⟩), Value.int .u8 k, Value.pointer x] W fun e w' => e = .returned (.tuple #[Value.pointer ((kGet l k).getD (none : Option Addr)), .bool (kHas l k), .int .i64 0]) ∧
      ∃ p' c', MapE w' base b p' c' (kSet ltI l k x) ∧ Touch b p W w' ∧ Head p p' W.heap.size := by
  cases hh : kHas l k with
  | false =>
    rw [kGet_none hh, kSet, if_neg (by rw [hh]; decide)]
    exact setNewE h hn k x hh hbase
  | true =>
    obtain ⟨v, hv⟩ := (has_at_rank ordI h.srt k).1 hh
    rw [kGet_some ordI h.srt hv, kSet, if_pos hh]
    exact (setHasE h hn k x v hv).mono fun e w' ⟨he, hm, ht⟩ => ⟨he, p, c, hm, ht, Head.refl _ _⟩

end Go.Proofs.Ytpnhklehpilopaa
