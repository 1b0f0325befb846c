/- What the calls on an ordered map answer, and what they leave: Delete, the nearest keys, indexes. -/
import Derived.Test.YtpnhklehpilopaaOmCallA
import Derived.Test.YtpnhklehpilopaaOmMath2
namespace Go.Proofs.Ytpnhklehpilopaa
open Go Go.RowKit

theorem cut_mapA (l : List (Int × ByteArray)) (r : Nat) : (l.map celA).take r ++ (l.map celA).drop (r + 1) = (l.take r ++ l.drop (r + 1)).map celA := by
  rw [← List.map_take, ← List.map_drop]; simp

/-- Set, whether or not the map had the key. -/
theorem setA {W : World} {base b : Nat} {p : Option Addr} {c : Nat} {l : List (Int × ByteArray)} (h : MapA W base b p c l) (hn : l.length ≤ 1000000) (k : Int) (x : ByteArray) (hbase : base ≤ W.heap.size) :
    Calls Try.prog 82 #[.pointer (some ⟨b, 0, none⟩), Value.int .i64 k, Value.string x] W fun e w' => e = .returned (.tuple #[Value.string ((kGet l k).getD (⟨#[]⟩ : ByteArray)), .bool (kHas l k), .int .i64 0]) ∧
      ∃ p' c', MapA w' base b p' c' (kSet ltI l k x) ∧ Touch b p W w' ∧ Head p p' W.heap.size := by
  cases hh : kHas l k with
  | false =>
    rw [kGet_none hh, kSet, if_neg (by rw [hh]; decide)]
    exact setNewA h hn k x hh hbase
  | true =>
    obtain ⟨v, hv⟩ := (has_at_rank ordI h.srt k).1 hh
    rw [kGet_some ordI h.srt hv, kSet, if_pos hh]
    exact (setHasA h hn k x v hv).mono fun e w' ⟨he, hm, ht⟩ => ⟨he, p, c, hm, ht, Head.refl _ _⟩

set_option maxHeartbeats 800000 in
set_option maxRecDepth 100000 in
theorem delNoneA {W : World} {base b : Nat} {p : Option Addr} {c : Nat} {l : List (Int × ByteArray)} (h : MapA W base b p c l) (hn : l.length ≤ 1000000) (k : Int) (hf0 : kHas l k = false) :
    Calls Try.prog 88 #[.pointer (some ⟨b, 0, none⟩), Value.int .i64 k] W fun e w' => e = .returned (.tuple #[.string ⟨#[]⟩, .bool false]) ∧ Below W.heap.size W w' := by
  have hf := findA h hn k
  rw [hf0] at hf
  clear h hf0
  go_enter Try.func88, Try.ntmps88
  go_wp2_with (go_at_call 173; refine hf.mono ?_; rintro e w1 ⟨rfl, hb⟩)
  go_ret2
  exact ⟨rfl, hb⟩

set_option maxHeartbeats 800000 in
set_option maxRecDepth 100000 in
theorem delHasA {W : World} {base b : Nat} {p : Option Addr} {c : Nat} {l : List (Int × ByteArray)} (h : MapA W base b p c l) (hn : l.length ≤ 1000000) (k : Int) (v : ByteArray) (hx : l[kRank ltI l k]? = some (k, v)) :
    Calls Try.prog 88 #[.pointer (some ⟨b, 0, none⟩), Value.int .i64 k] W fun e w' => e = .returned (.tuple #[Value.string v, .bool true]) ∧
      ∃ p' c', MapA w' base b p' c' (l.take (kRank ltI l k) ++ l.drop (kRank ltI l k + 1)) ∧ Touch b p W w' ∧ Head p p' W.heap.size := by
  have hf := findA h hn k
  rw [(has_at_rank ordI h.srt k).2 ⟨v, hx⟩] at hf
  have H := Lib.hid h
  have HS := Lib.hid (srt_cut h.srt (kRank ltI l k))
  have hj : kRank ltI l k < l.length := (List.getElem?_eq_some_iff.1 hx).1
  clear h
  generalize hrk : kRank ltI l k = r at *
  have HX := Lib.hid hx
  clear hrk hx
  go_enter Try.func88, Try.ntmps88
  go_wp2_with fail
  refine hf.mono ?_
  rintro e w1 ⟨rfl, hb⟩
  have hM := H.out.below hb
  obtain ⟨g, rfl, hc, hk, hvv⟩ := hM.at HX.out
  have hp := hM.pairs
  have hdel := delA base _ _ r _ hM.row (by simpa using hj) (by simpa using hn)
  rw [cut_mapA] at hdel
  have HM := Lib.hid hM
  have HL := Lib.hid hn
  have hr0 : (0 : Int) ≤ (r : Int) := by omega
  have hr1 : (r : Int) < (l.length : Int) := by omega
  clear hM hk
  go_wp2_with fail
  refine hdel.mono ?_
  rintro e w3 ⟨v', rfl, hrow, hgrow, hhead⟩
  obtain ⟨p', c', rfl, hc1, hf1, hmap, htouch, hhd⟩ := HM.out.newRow hgrow hrow (.inl hhead) HS.out
  have HT := Lib.hid htouch
  have HMP := Lib.hid hmap
  have HHD := Lib.hid hhd
  have HB := Lib.hid hb
  clear hdel hrow hgrow hhead hmap htouch hhd hb
  generalize (l.take r ++ l.drop (r + 1)).length = n' at *
  go_wp2
  go_ret2
  exact ⟨rfl, p', c', HMP.out, (Touch.of_below HB.out).trans HT.out, HHD.out.mono HB.out.size⟩

/-- Delete, whether or not the map had the key. -/
theorem deleteA {W : World} {base b : Nat} {p : Option Addr} {c : Nat} {l : List (Int × ByteArray)} (h : MapA W base b p c l) (hn : l.length ≤ 1000000) (k : Int) :
    Calls Try.prog 88 #[.pointer (some ⟨b, 0, none⟩), Value.int .i64 k] W fun e w' => e = .returned (.tuple #[Value.string ((kGet l k).getD (⟨#[]⟩ : ByteArray)), .bool (kHas l k)]) ∧
      ∃ p' c', MapA w' base b p' c' (kDel ltI l k) ∧ Touch b p W w' ∧ Head p p' W.heap.size := by
  cases hh : kHas l k with
  | false =>
    rw [kGet_none hh, kDel, if_neg (by rw [hh]; decide)]
    exact (delNoneA h hn k hh).mono fun e w' ⟨he, hb⟩ => ⟨he, p, c, h.below hb, Touch.of_below hb, Head.refl _ _⟩
  | true =>
    obtain ⟨v, hv⟩ := (has_at_rank ordI h.srt k).1 hh
    rw [kGet_some ordI h.srt hv, kDel, if_pos hh]
    exact delHasA h hn k v hv

/-- What a question for a key with its value answers. -/
def tupA : Option (Int × ByteArray) → Value
  | some x => .tuple #[Value.int .i64 x.1, Value.string x.2, .bool true]
  | none => .tuple #[.int .i64 0, .string ⟨#[]⟩, .bool false]

theorem pickAtA {W : World} {base b : Nat} {p : Option Addr} {c : Nat} {l : List (Int × ByteArray)} (h : MapA W base b p c l) (j : Int) (o : Option (Int × ByteArray)) (ho : o = if 0 ≤ j then l[j.toNat]? else none) :
    Calls Try.prog 177 #[.pointer (some ⟨b, 0, none⟩), .int .i64 j] W fun e w' => e = .returned (tupA o) ∧ Below W.heap.size W w' := by
  subst ho
  by_cases hj : 0 ≤ j
  · obtain ⟨n, rfl⟩ := Int.eq_ofNat_of_zero_le hj
    rw [if_pos hj, Int.toNat_natCast]
    cases hx : l[n]? with
    | none => exact pickNoneA h _ (.inr (by have := List.getElem?_eq_none_iff.1 hx; omega))
    | some x => exact pickA h n x hx
  · rw [if_neg hj]
    exact pickNoneA h _ (.inl (by omega))

set_option maxHeartbeats 800000 in
set_option maxRecDepth 100000 in
theorem minA {W : World} {base b : Nat} {p : Option Addr} {c : Nat} {l : List (Int × ByteArray)} (h : MapA W base b p c l) (o : Option (Int × ByteArray)) (ho : l[0]? = o) :
    Calls Try.prog 89 #[.pointer (some ⟨b, 0, none⟩)] W fun e w' => e = .returned (tupA o) ∧ Below W.heap.size W w' := by
  have hp := pickAtA h 0 o (by simp [ho])
  clear h
  cases o with
  | none =>
    rw [tupA] at *
    go_enter Try.func89, Try.ntmps89
    go_wp2_with (go_at_call 177; refine hp.mono ?_; rintro e w1 ⟨rfl, hb⟩)
    go_ret3
    exact ⟨rfl, hb⟩
  | some x =>
    obtain ⟨k, v⟩ := x
    rw [tupA] at *
    go_enter Try.func89, Try.ntmps89
    go_wp2_with (go_at_call 177; refine hp.mono ?_; rintro e w1 ⟨rfl, hb⟩)
    go_ret3
    exact ⟨rfl, hb⟩

set_option maxHeartbeats 800000 in
set_option maxRecDepth 100000 in
theorem ceilA {W : World} {base b : Nat} {p : Option Addr} {c : Nat} {l : List (Int × ByteArray)} (h : MapA W base b p c l) (hn : l.length ≤ 1000000) (k : Int) (o : Option (Int × ByteArray)) (ho : l[kRank ltI l k]? = o) :
    Calls Try.prog 84 #[.pointer (some ⟨b, 0, none⟩), Value.int .i64 k] W fun e w' => e = .returned (tupA o) ∧ Below W.heap.size W w' := by
  have hr := rankA h hn k
  have H := Lib.hid h
  clear h
  generalize kRank ltI l k = r at *
  have HO := Lib.hid ho
  clear ho
  cases o with
  | none =>
    rw [tupA] at *
    go_enter Try.func84, Try.ntmps84
    go_wp2_with fail
    refine hr.mono ?_
    rintro e w1 ⟨rfl, hb⟩
    have hp := pickAtA (H.out.below hb) r none (by simp [HO.out])
    rw [tupA] at hp
    go_wp2_with (go_at_call 177; refine hp.mono ?_; rintro e w2 ⟨rfl, hb2⟩)
    go_ret3
    exact ⟨rfl, below_then hb hb2⟩
  | some x =>
    obtain ⟨k', v⟩ := x
    rw [tupA] at *
    go_enter Try.func84, Try.ntmps84
    go_wp2_with fail
    refine hr.mono ?_
    rintro e w1 ⟨rfl, hb⟩
    have hp := pickAtA (H.out.below hb) r (some (k', v)) (by simp [HO.out])
    rw [tupA] at hp
    go_wp2_with (go_at_call 177; refine hp.mono ?_; rintro e w2 ⟨rfl, hb2⟩)
    go_ret3
    exact ⟨rfl, below_then hb hb2⟩

set_option maxHeartbeats 800000 in
set_option maxRecDepth 100000 in
theorem floorA {W : World} {base b : Nat} {p : Option Addr} {c : Nat} {l : List (Int × ByteArray)} (h : MapA W base b p c l) (hn : l.length ≤ 1000000) (k : Int) (o : Option (Int × ByteArray)) (ho : (if 0 < kUp ltI l k then l[kUp ltI l k - 1]? else none) = o) :
    Calls Try.prog 83 #[.pointer (some ⟨b, 0, none⟩), Value.int .i64 k] W fun e w' => e = .returned (tupA o) ∧ Below W.heap.size W w' := by
  have hB : Below W.heap.size W (W.alloc (.cells #[Value.int .i64 k] 3)) := (Below.refl _ W).alloc (Nat.le_refl _) _
  have k0 : (W.alloc (.cells #[Value.int .i64 k] 3)).heap[W.heap.size]? = some (.cells #[Value.int .i64 k] 3 (0, 0)) := heap_alloc_new W _
  have hs := searchA (h.below hB) hn 176 #[.pointer (some ⟨W.heap.size, 0, none⟩)] (fun key => ltI k key) (kUp ltI l k) (enters_of Try.func176 (by kernel_rfl) rfl)
    (fun W' key hb => floorCloA W.heap.size key k W' (by simp only [World.cell?, hb.block W.heap.size (by simp), k0]; rfl)) (kUp_le ordI h.srt k)
    (fun j x hx => kUp_iff ordI h.srt k j x hx)
  have H := Lib.hid (h.below hB)
  have hle := kUp_le ordI h.srt k
  have HB := Lib.hid hB
  clear h k0 hB
  generalize kUp ltI l k = r at *
  have hpk : o = if (0 : Int) ≤ (r : Int) - 1 then l[((r : Int) - 1).toNat]? else none := by
    rw [← ho]
    by_cases hr : 0 < r
    · rw [if_pos hr, if_pos (by omega), show ((r : Int) - 1).toNat = r - 1 by omega]
    · rw [if_neg hr, if_neg (by omega)]
  have HO := Lib.hid hpk
  clear ho hpk
  cases o with
  | none =>
    rw [tupA] at *
    go_enter Try.func83, Try.ntmps83
    go_wp2_with fail
    refine hs.mono ?_
    rintro e w1 ⟨rfl, hb⟩
    have hp := pickAtA (H.out.below hb) ((r : Int) - 1) none HO.out
    rw [tupA] at hp
    go_wp2_with (go_at_call 177; refine hp.mono ?_; rintro e w2 ⟨rfl, hb2⟩)
    go_ret3
    exact ⟨rfl, below_then HB.out (below_then hb hb2)⟩
  | some x =>
    obtain ⟨k', v⟩ := x
    rw [tupA] at *
    go_enter Try.func83, Try.ntmps83
    go_wp2_with fail
    refine hs.mono ?_
    rintro e w1 ⟨rfl, hb⟩
    have hp := pickAtA (H.out.below hb) ((r : Int) - 1) (some (k', v)) HO.out
    rw [tupA] at hp
    go_wp2_with (go_at_call 177; refine hp.mono ?_; rintro e w2 ⟨rfl, hb2⟩)
    go_ret3
    exact ⟨rfl, below_then HB.out (below_then hb hb2)⟩

/-- What At answers. -/
def tupEA : Option (Int × ByteArray) → Value
  | some x => .tuple #[Value.int .i64 x.1, Value.string x.2, .int .i64 0]
  | none => .tuple #[.int .i64 0, .string ⟨#[]⟩, .int .i64 3]

set_option maxHeartbeats 800000 in
set_option maxRecDepth 100000 in
theorem atA {W : World} {base b : Nat} {p : Option Addr} {c : Nat} {l : List (Int × ByteArray)} (h : MapA W base b p c l) (j : Int) (o : Option (Int × ByteArray)) (ho : o = if 0 ≤ j then l[j.toNat]? else none) :
    Calls Try.prog 85 #[.pointer (some ⟨b, 0, none⟩), .int .i64 j] W fun e w' => e = .returned (tupEA o) ∧ Below W.heap.size W w' := by
  have hp := pickAtA h j o ho
  have H := Lib.hid h
  have HO := Lib.hid ho
  clear h ho
  cases o with
  | none =>
    rw [tupA] at hp
    rw [tupEA]
    go_enter Try.func85, Try.ntmps85
    go_wp2_with fail
    refine hp.mono ?_
    rintro e w1 ⟨rfl, hb⟩
    have hv := validA (H.out.below hb)
    go_wp2_with (go_at_call 172; refine hv.mono ?_; rintro e w2 ⟨rfl, rfl⟩)
    go_ret3
    exact ⟨rfl, hb⟩
  | some x =>
    obtain ⟨k', v⟩ := x
    rw [tupA] at hp
    rw [tupEA]
    go_enter Try.func85, Try.ntmps85
    go_wp2_with fail
    refine hp.mono ?_
    rintro e w1 ⟨rfl, hb⟩
    have hv := validA (H.out.below hb)
    go_wp2_with (go_at_call 172; refine hv.mono ?_; rintro e w2 ⟨rfl, rfl⟩)
    go_ret3
    exact ⟨rfl, hb⟩
end Go.Proofs.Ytpnhklehpilopaa
