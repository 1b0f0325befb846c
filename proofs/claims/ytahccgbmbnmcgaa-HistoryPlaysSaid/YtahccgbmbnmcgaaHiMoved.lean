/- A move of the law: what it leaves. -/
import Derived.Test.YtahccgbmbnmcgaaHiCopyI
namespace Go.Proofs.Ytahccgbmbnmcgaa
open Go Go.RowKit

/-- What a move makes of the elements. -/
def Mv (k n m : Nat) (l l' : List Int) : Prop := if k % 8 = 7 ∧ n % 4 = 0 then l' = [] else m ≤ l'.length ∧ (l' <+: l ∨ l <+: l')

section
variable {w : World} {b : Nat} {p : Option Addr} {c lim m : Nat} {l : List Int}

theorem Touch.after {b : Nat} {p : Option Addr} {W X w' : World} (hb : Below W.heap.size W X) (h : Touch b p X w') : Touch b p W w' := (Touch.of_below hb).trans h

set_option maxHeartbeats 1600000 in
set_option maxRecDepth 100000 in
theorem moved5 (hL : HLI w b p c lim m l) (k n : Nat) (hk : k % 8 = 5) :
    Calls Try.prog 25 #[.agg #[.int .u8 k, .int .u16 n], .pointer (some ⟨b, 0, none⟩), .int .i64 lim] w fun e w' => e = .returned (.bool true) ∧ HLI w' b p c lim l.length l ∧ Touch b p w w' := by
  obtain ⟨X, hX⟩ : ∃ X, X = w.alloc (.cells #[.int .u8 k, .int .u16 n] 51) := ⟨_, rfl⟩
  have hXb : Below w.heap.size w X := by rw [hX]; exact (Below.refl _ _).alloc (Nat.le_refl _) _
  have hlen := lenI (hL.below hXb)
  have hmk := markI (hL.below hXb)
  have h5 : (((k : Int) % 8) == 5) = true := by simp; omega
  have HB := Lib.hid hXb
  clear hXb hL
  go_enter Try.func25, Try.ntmps25
  go_wp2_with fail
  rw [← hX]
  refine hlen.mono ?_
  rintro e w1 ⟨rfl, rfl⟩
  have cX : w1.heap[w.heap.size]? = some (.cells #[.int .u8 k, .int .u16 n] 51 (0, 0)) := by rw [hX]; exact heap_alloc_new _ _
  have c0 : w1.cell? ⟨w.heap.size, 0, none⟩ = some (.int .u8 k) := by simp [World.cell?, cX]
  clear hX cX hlen
  go_wp2_with fail
  refine hmk.mono ?_
  rintro e w2 ⟨⟨v, rfl⟩, h2, ht2⟩
  have hmd := markedI h2
  have hln := lenI h2
  have HF : Hid (HLI w2 b p c lim l.length l ∧ Touch b p w w2) := Lib.hid ⟨h2, Touch.after HB.out ht2⟩
  clear h2 ht2 hmk
  go_wp2_with (first | (go_at_call 27; refine hln.mono ?_; rintro e w' ⟨rfl, rfl⟩) | (go_at_call 28; refine hmd.mono ?_; rintro e w' ⟨rfl, rfl⟩))
  go_ret
  exact ⟨rfl, HF.out⟩

set_option maxHeartbeats 1600000 in
set_option maxRecDepth 100000 in
theorem moved6 (hL : HLI w b p c lim m l) (k n : Nat) (hk : k % 8 = 6) (hn : n ≤ 65535) :
    Calls Try.prog 25 #[.agg #[.int .u8 k, .int .u16 n], .pointer (some ⟨b, 0, none⟩), .int .i64 lim] w fun e w' => e = .returned (.bool true) ∧ ∃ j, m ≤ j ∧ j ≤ l.length ∧ HLI w' b p c lim m (l.take j) ∧ Touch b p w w' := by
  obtain ⟨X, hX⟩ : ∃ X, X = w.alloc (.cells #[.int .u8 k, .int .u16 n] 51) := ⟨_, rfl⟩
  have hXb : Below w.heap.size w X := by rw [hX]; exact (Below.refl _ _).alloc (Nat.le_refl _) _
  have hlen := lenI (hL.below hXb)
  have hmrk := markedI (hL.below hXb)
  have hml := hL.ml
  have hll : l.length ≤ 100000 := Nat.le_trans hL.ll hL.lm
  obtain ⟨j, hj⟩ : ∃ j, j = m + n % (l.length - m + 1) := ⟨_, rfl⟩
  have hj1 : m ≤ j := by omega
  have hj2 : j ≤ l.length := by have := Nat.mod_lt n (show l.length - m + 1 > 0 by omega); omega
  have hct := cutI (hL.below hXb) j hj1 hj2
  have h5 : (((k : Int) % 8) == 5) = false := by simp; omega
  have h6 : (((k : Int) % 8) == 6) = true := by simp; omega
  have hjt : (m : Int) + Int.tmod (n : Int) ((l.length : Int) - (m : Int) + 1) = (j : Int) := by
    rw [hj, show ((l.length : Int) - (m : Int) + 1) = ((l.length - m + 1 : Nat) : Int) by omega]
    rw [Int.tmod_eq_emod_of_nonneg (by omega)]
    omega
  have hje : (m : Int) + (n : Int) % ((l.length : Int) - (m : Int) + 1) = (j : Int) := by
    rw [hj, show ((l.length : Int) - (m : Int) + 1) = ((l.length - m + 1 : Nat) : Int) by omega]
    omega
  have hd1 : ¬ (l.length : Int) < (m : Int) := by omega
  have hz : ¬ ((l.length : Int) - (m : Int) + 1) = 0 := by omega
  have HB := Lib.hid hXb
  have HLN := Lib.hid (And.intro hj1 hj2)
  have htl : (l.take j).length = j := by rw [List.length_take, Nat.min_eq_left hj2]
  clear hXb hL hj
  generalize hll2 : l.length = ln at *
  clear hll2
  go_enter Try.func25, Try.ntmps25
  go_wp2_with fail
  rw [← hX]
  refine hlen.mono ?_
  rintro e w1 ⟨rfl, rfl⟩
  have cX : w1.heap[w.heap.size]? = some (.cells #[.int .u8 k, .int .u16 n] 51 (0, 0)) := by rw [hX]; exact heap_alloc_new _ _
  have c0 : w1.cell? ⟨w.heap.size, 0, none⟩ = some (.int .u8 k) := by simp [World.cell?, cX]
  have c1 : w1.cell? ⟨w.heap.size, 1, none⟩ = some (.int .u16 n) := by simp [World.cell?, cX]
  clear hX cX
  go_wp2_with (first | (go_at_call 27; refine hlen.mono ?_; rintro e w' ⟨rfl, rfl⟩) | (go_at_call 28; refine hmrk.mono ?_; rintro e w' ⟨rfl, rfl⟩))
  refine hct.mono ?_
  rintro e w2 ⟨rfl, h2, ht2⟩
  have hmd := markedI h2
  have hln := lenI h2
  rw [htl] at hln
  have HF : Hid (HLI w2 b p c lim m (l.take j) ∧ Touch b p w w2) := Lib.hid ⟨h2, Touch.after HB.out ht2⟩
  clear h2 ht2 hct hlen hmrk
  go_wp2_with (first | (go_at_call 27; refine hln.mono ?_; rintro e w' ⟨rfl, rfl⟩) | (go_at_call 28; refine hmd.mono ?_; rintro e w' ⟨rfl, rfl⟩))
  go_ret
  exact ⟨rfl, j, HLN.out.1, HLN.out.2, HF.out⟩

set_option maxHeartbeats 1600000 in
set_option maxRecDepth 100000 in
theorem moved7 (hL : HLI w b p c lim m l) (k n : Nat) (hk : k % 8 = 7) (hn : n % 4 = 0) :
    Calls Try.prog 25 #[.agg #[.int .u8 k, .int .u16 n], .pointer (some ⟨b, 0, none⟩), .int .i64 lim] w fun e w' => e = .returned (.bool true) ∧ HLI w' b none 0 lim 0 [] ∧ Touch b p w w' := by
  obtain ⟨X, hX⟩ : ∃ X, X = w.alloc (.cells #[.int .u8 k, .int .u16 n] 51) := ⟨_, rfl⟩
  have hXb : Below w.heap.size w X := by rw [hX]; exact (Below.refl _ _).alloc (Nat.le_refl _) _
  have hlen := lenI (hL.below hXb)
  have hcl := clearI (hL.below hXb)
  have h5 : (((k : Int) % 8) == 5) = false := by simp; omega
  have h6 : (((k : Int) % 8) == 6) = false := by simp; omega
  have h7 : (((k : Int) % 8) == 7) = true := by simp; omega
  have h4 : (((n : Int) % 4) == 0) = true := by simp; omega
  have HB := Lib.hid hXb
  clear hXb hL
  go_enter Try.func25, Try.ntmps25
  go_wp2_with fail
  rw [← hX]
  refine hlen.mono ?_
  rintro e w1 ⟨rfl, rfl⟩
  have cX : w1.heap[w.heap.size]? = some (.cells #[.int .u8 k, .int .u16 n] 51 (0, 0)) := by rw [hX]; exact heap_alloc_new _ _
  have c0 : w1.cell? ⟨w.heap.size, 0, none⟩ = some (.int .u8 k) := by simp [World.cell?, cX]
  have c1 : w1.cell? ⟨w.heap.size, 1, none⟩ = some (.int .u16 n) := by simp [World.cell?, cX]
  clear hX cX hlen
  go_wp2_with fail
  refine hcl.mono ?_
  rintro e w2 ⟨⟨v, rfl⟩, h2, ht2⟩
  have hmd := markedI h2
  have hln := lenI h2
  rw [List.length_nil] at hln
  have HF : Hid (HLI w2 b none 0 lim 0 [] ∧ Touch b p w w2) := Lib.hid ⟨h2, Touch.after HB.out ht2⟩
  clear h2 ht2 hcl
  go_wp2_with (first | (go_at_call 27; refine hln.mono ?_; rintro e w' ⟨rfl, rfl⟩) | (go_at_call 28; refine hmd.mono ?_; rintro e w' ⟨rfl, rfl⟩))
  go_ret
  exact ⟨rfl, HF.out⟩

set_option maxHeartbeats 1600000 in
set_option maxRecDepth 100000 in
theorem moved7no (hL : HLI w b p c lim m l) (k n : Nat) (hk : k % 8 = 7) (hn : n % 4 ≠ 0) :
    Calls Try.prog 25 #[.agg #[.int .u8 k, .int .u16 n], .pointer (some ⟨b, 0, none⟩), .int .i64 lim] w fun e w' => e = .returned (.bool true) ∧ HLI w' b p c lim m l ∧ Touch b p w w' := by
  obtain ⟨X, hX⟩ : ∃ X, X = w.alloc (.cells #[.int .u8 k, .int .u16 n] 51) := ⟨_, rfl⟩
  have hXb : Below w.heap.size w X := by rw [hX]; exact (Below.refl _ _).alloc (Nat.le_refl _) _
  have hlen := lenI (hL.below hXb)
  have h5 : (((k : Int) % 8) == 5) = false := by simp; omega
  have h6 : (((k : Int) % 8) == 6) = false := by simp; omega
  have h7 : (((k : Int) % 8) == 7) = true := by simp; omega
  have h4 : (((n : Int) % 4) == 0) = false := by simp; omega
  have HF : Hid (HLI X b p c lim m l ∧ Touch b p w X) := Lib.hid ⟨hL.below hXb, Touch.of_below hXb⟩
  clear hXb hL
  go_enter Try.func25, Try.ntmps25
  go_wp2_with fail
  rw [← hX]
  refine hlen.mono ?_
  rintro e w1 ⟨rfl, rfl⟩
  have cX : w1.heap[w.heap.size]? = some (.cells #[.int .u8 k, .int .u16 n] 51 (0, 0)) := by rw [hX]; exact heap_alloc_new _ _
  have c0 : w1.cell? ⟨w.heap.size, 0, none⟩ = some (.int .u8 k) := by simp [World.cell?, cX]
  have c1 : w1.cell? ⟨w.heap.size, 1, none⟩ = some (.int .u16 n) := by simp [World.cell?, cX]
  clear hX cX hlen
  go_wp2_with fail
  go_ret
  exact ⟨rfl, HF.out⟩

set_option maxHeartbeats 1600000 in
set_option maxRecDepth 100000 in
theorem movedFull (hL : HLI w b p c lim m l) (k n : Nat) (hk : k % 8 < 5) (hn : n ≤ 65535) (hf : lim ≤ l.length) :
    Calls Try.prog 25 #[.agg #[.int .u8 k, .int .u16 n], .pointer (some ⟨b, 0, none⟩), .int .i64 lim] w fun e w' => e = .returned (.bool true) ∧ HLI w' b p c lim m l ∧ Touch b p w w' := by
  obtain ⟨X, hX⟩ : ∃ X, X = w.alloc (.cells #[.int .u8 k, .int .u16 n] 51) := ⟨_, rfl⟩
  have hXb : Below w.heap.size w X := by rw [hX]; exact (Below.refl _ _).alloc (Nat.le_refl _) _
  have hlen := lenI (hL.below hXb)
  have h5 : (((k : Int) % 8) == 5) = false := by simp; omega
  have h6 : (((k : Int) % 8) == 6) = false := by simp; omega
  have h7 : (((k : Int) % 8) == 7) = false := by simp; omega
  have hadd : Calls Try.prog 35 #[.pointer (some ⟨b, 0, none⟩), .int .i64 n] X fun e w' => e = .returned (.int .i64 4) ∧ Hid (HLI w' b p c lim m l ∧ Touch b p w w') := by
    refine (addFullI (hL.below hXb) (Nat.le_antisymm hL.ll hf) n).mono ?_
    rintro e w' ⟨rfl, hb⟩
    exact ⟨rfl, Lib.hid ⟨(hL.below hXb).below hb, Touch.after hXb (Touch.of_below hb)⟩⟩
  clear hXb hL hk
  generalize hgl : l.length = ln at *
  clear hgl
  go_enter Try.func25, Try.ntmps25
  go_wp2_with fail
  rw [← hX]
  refine hlen.mono ?_
  rintro e w1 ⟨rfl, rfl⟩
  have cX : w1.heap[w.heap.size]? = some (.cells #[.int .u8 k, .int .u16 n] 51 (0, 0)) := by rw [hX]; exact heap_alloc_new _ _
  have c0 : w1.cell? ⟨w.heap.size, 0, none⟩ = some (.int .u8 k) := by simp [World.cell?, cX]
  have c1 : w1.cell? ⟨w.heap.size, 1, none⟩ = some (.int .u16 n) := by simp [World.cell?, cX]
  clear hX cX hlen
  go_wp2_with fail
  refine hadd.mono ?_
  rintro e w2 ⟨rfl, HF⟩
  clear hadd c0 c1
  go_wp2_with fail
  go_ret
  exact ⟨by first | rfl | simp [hf], HF.out⟩

set_option maxHeartbeats 1600000 in
set_option maxRecDepth 100000 in
theorem movedAdd (hL : HLI w b p c lim m l) (k n : Nat) (hk : k % 8 < 5) (hn : n ≤ 65535) (hf : ¬ lim ≤ l.length) :
    Calls Try.prog 25 #[.agg #[.int .u8 k, .int .u16 n], .pointer (some ⟨b, 0, none⟩), .int .i64 lim] w fun e w' => e = .returned (.bool true) ∧ ∃ p' c', HLI w' b p' c' lim m (l ++ [(n : Int)]) ∧ Touch b p w w' ∧ Head p p' w.heap.size := by
  obtain ⟨X, hX⟩ : ∃ X, X = w.alloc (.cells #[.int .u8 k, .int .u16 n] 51) := ⟨_, rfl⟩
  have hXb : Below w.heap.size w X := by rw [hX]; exact (Below.refl _ _).alloc (Nat.le_refl _) _
  have hlen := lenI (hL.below hXb)
  have h5 : (((k : Int) % 8) == 5) = false := by simp; omega
  have h6 : (((k : Int) % 8) == 6) = false := by simp; omega
  have h7 : (((k : Int) % 8) == 7) = false := by simp; omega
  have hadd : Calls Try.prog 35 #[.pointer (some ⟨b, 0, none⟩), .int .i64 n] X fun e w' => e = .returned (.int .i64 0) ∧ Hid (∃ p' c', HLI w' b p' c' lim m (l ++ [(n : Int)]) ∧ Touch b p w w' ∧ Head p p' w.heap.size) := by
    refine (addI (hL.below hXb) (by omega) n).mono ?_
    rintro e w' ⟨rfl, p', c', h, ht, hh⟩
    exact ⟨rfl, Lib.hid ⟨p', c', h, Touch.after hXb ht, hh.mono hXb.size⟩⟩
  clear hXb hL hk
  generalize hgl : l.length = ln at *
  clear hgl
  go_enter Try.func25, Try.ntmps25
  go_wp2_with fail
  rw [← hX]
  refine hlen.mono ?_
  rintro e w1 ⟨rfl, rfl⟩
  have cX : w1.heap[w.heap.size]? = some (.cells #[.int .u8 k, .int .u16 n] 51 (0, 0)) := by rw [hX]; exact heap_alloc_new _ _
  have c0 : w1.cell? ⟨w.heap.size, 0, none⟩ = some (.int .u8 k) := by simp [World.cell?, cX]
  have c1 : w1.cell? ⟨w.heap.size, 1, none⟩ = some (.int .u16 n) := by simp [World.cell?, cX]
  clear hX cX hlen
  go_wp2_with fail
  refine hadd.mono ?_
  rintro e w2 ⟨rfl, HF⟩
  clear hadd c0 c1
  go_wp2_with fail
  go_ret
  exact ⟨by first | rfl | simp [hf], HF.out⟩

/-- A move: it answers true, and leaves what it may. -/
theorem moved_any (hL : HLI w b p c lim m l) (k n : Nat) (hn : n ≤ 65535) :
    Calls Try.prog 25 #[.agg #[.int .u8 k, .int .u16 n], .pointer (some ⟨b, 0, none⟩), .int .i64 lim] w fun e w' => e = .returned (.bool true) ∧ ∃ p' c' m' l', HLI w' b p' c' lim m' l' ∧ Mv k n m l l' ∧ Touch b p w w' ∧ Head p p' w.heap.size := by
  have hml := hL.ml
  by_cases h5 : k % 8 = 5
  · refine (moved5 hL k n h5).mono fun e w' ⟨h1, h2, h3⟩ => ⟨h1, p, c, l.length, l, h2, ?_, h3, Head.refl _ _⟩
    rw [Mv, if_neg (by omega)]
    exact ⟨hml, .inl (List.prefix_refl _)⟩
  by_cases h6 : k % 8 = 6
  · refine (moved6 hL k n h6 hn).mono fun e w' ⟨h1, j, h2, h3, h4, h7⟩ => ⟨h1, p, c, m, l.take j, h4, ?_, h7, Head.refl _ _⟩
    rw [Mv, if_neg (by omega)]
    exact ⟨by rw [List.length_take]; omega, .inl (List.take_prefix _ _)⟩
  by_cases h7 : k % 8 = 7
  · by_cases h4 : n % 4 = 0
    · refine (moved7 hL k n h7 h4).mono fun e w' ⟨h1, h2, h3⟩ => ⟨h1, none, 0, 0, [], h2, ?_, h3, fun a h => by cases h⟩
      rw [Mv, if_pos ⟨h7, h4⟩]
    · refine (moved7no hL k n h7 h4).mono fun e w' ⟨h1, h2, h3⟩ => ⟨h1, p, c, m, l, h2, ?_, h3, Head.refl _ _⟩
      rw [Mv, if_neg (by omega)]
      exact ⟨hml, .inl (List.prefix_refl _)⟩
  · by_cases hf : lim ≤ l.length
    · refine (movedFull hL k n (by omega) hn hf).mono fun e w' ⟨h1, h2, h3⟩ => ⟨h1, p, c, m, l, h2, ?_, h3, Head.refl _ _⟩
      rw [Mv, if_neg (by omega)]
      exact ⟨hml, .inl (List.prefix_refl _)⟩
    · refine (movedAdd hL k n (by omega) hn hf).mono fun e w' ⟨h1, p', c', h3, h4, h5⟩ => ⟨h1, p', c', m, _, h3, ?_, h4, h5⟩
      rw [Mv, if_neg (by omega)]
      exact ⟨by rw [List.length_append]; omega, .inr (List.prefix_append _ _)⟩
end
end Go.Proofs.Ytahccgbmbnmcgaa
