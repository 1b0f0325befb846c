/- An ordered map in memory, and the functions that only ask it. -/
import Derived.Test.YtpnhklehpilopaaOmDelA
import Derived.Test.YtpnhklehpilopaaOmSearch
import Derived.Test.YtpnhklehpilopaaOmMath
import Derived.Test.YtpnhklehpilopaaOmOrd
import Derived.Test.YtpnhklehpilopaaOmOrdS
import Derived.Deep.QuietTactic
import Derived.BigQuiet
import Derived.Outline
import Derived.WalkLawsBesides
namespace Go.Proofs.Ytpnhklehpilopaa
open Go Go.RowKit

/-- A key with its value, in cells. -/
def celA (p : Int × ByteArray) : List Value := [Value.int .i64 p.1, Value.string p.2]

theorem celA_ok (p : Int × ByteArray) : (celA p).length = 2 ∧ ∀ u ∈ celA p, u.oneCell' = true := ⟨rfl, by intro u hu; simp [celA] at hu; rcases hu with rfl | rfl <;> rfl⟩

/-- At block b lies a map with just these keys and values; its pairs lie in a row of their own. -/
structure MapA (W : World) (base b : Nat) (p : Option Addr) (c : Nat) (l : List (Int × ByteArray)) : Prop where
  head : W.heap[b]? = some (.cells #[.pointer (some ⟨b, 0, none⟩), .slice p l.length c] 230 (0, 0))
  low : base ≤ b
  row : RowIs W base 233 2 (.slice p l.length c) (l.map celA)
  apart : ∀ a, p = some a → a.block ≠ b
  srt : Srt ltI l

theorem MapA.lt {W : World} {base b : Nat} {p : Option Addr} {c : Nat} {l : List (Int × ByteArray)} (h : MapA W base b p c l) : b < W.heap.size := (Array.getElem?_eq_some_iff.1 h.head).1

theorem MapA.own {W : World} {base b : Nat} {p : Option Addr} {c : Nat} {l : List (Int × ByteArray)} (h : MapA W base b p c l) {a : Addr} (ha : p = some a) : base ≤ a.block ∧ a.block < W.heap.size := by
  subst ha
  exact h.row.lt a.block rfl

/-- What leaves the two blocks of the map alone leaves the map alone. -/
theorem MapA.same {W W' : World} {base b : Nat} {p : Option Addr} {c : Nat} {l : List (Int × ByteArray)} (h : MapA W base b p c l) (hs : W.heap.size ≤ W'.heap.size)
    (hb : W'.heap[b]? = W.heap[b]?) (hr : ∀ a, p = some a → W'.heap[a.block]? = W.heap[a.block]?) : MapA W' base b p c l := by
  refine ⟨hb.trans h.head, h.low, ⟨⟨h.row.1.1, ?_⟩, h.row.2⟩, h.apart, h.srt⟩
  rcases h.row.1.2 with h1 | ⟨g, cap, cur, h1, h2, h3, h4⟩
  · exact .inl h1
  · refine .inr ⟨g, cap, cur, h1, h2, ?_, h4⟩
    have : p = some ⟨g, 0, none⟩ := by injection h1
    exact (hr _ this).trans h3

theorem MapA.below {W W' : World} {base b : Nat} {p : Option Addr} {c : Nat} {l : List (Int × ByteArray)} (h : MapA W base b p c l) (hb : Below W.heap.size W W') : MapA W' base b p c l :=
  h.same hb.size (hb.block b h.lt) (fun _ ha => hb.block _ (h.own ha).2)

theorem MapA.self {W : World} {base b : Nat} {p : Option Addr} {c : Nat} {l : List (Int × ByteArray)} (h : MapA W base b p c l) : W.cell? ⟨b, 0, none⟩ = some (.pointer (some ⟨b, 0, none⟩)) := by
  simp [World.cell?, h.head]
theorem MapA.pairs {W : World} {base b : Nat} {p : Option Addr} {c : Nat} {l : List (Int × ByteArray)} (h : MapA W base b p c l) : W.cell? ⟨b, 1, none⟩ = some (.slice p l.length c) := by
  simp [World.cell?, h.head]

/-- The cells of a key and its value. -/
theorem MapA.at {W : World} {base b : Nat} {p : Option Addr} {c : Nat} {l : List (Int × ByteArray)} (h : MapA W base b p c l) {j : Nat} {x : Int × ByteArray} (hx : l[j]? = some x) :
    ∃ g, p = some ⟨g, 0, none⟩ ∧ l.length ≤ c ∧ W.cell? ⟨g, j * 2, none⟩ = some (Value.int .i64 x.1) ∧ W.cell? ⟨g, j * 2 + 1, none⟩ = some (Value.string x.2) := by
  have hj : j < l.length := (List.getElem?_eq_some_iff.1 hx).1
  rcases h.row.parts with ⟨h1, h2⟩ | ⟨g, cap, cur, h1, h2, h3, h4, h5, h6, h7⟩
  · have : l = [] := by simpa using h2
    subst this
    simp at hj
  · injection h1 with e1 e2 e3
    subst e3
    have hm : (l.map celA)[j]? = some (celA x) := by simp [hx]
    refine ⟨g, e1, by simpa using h4, ?_, ?_⟩
    · exact row_cell (i := j) (j := 0) h.row.2 h3 h7 hm rfl
    · exact row_cell (i := j) (j := 1) h.row.2 h3 h7 hm rfl

set_option maxHeartbeats 800000 in
set_option maxRecDepth 100000 in
theorem validA {W : World} {base b : Nat} {p : Option Addr} {c : Nat} {l : List (Int × ByteArray)} (h : MapA W base b p c l) :
    Calls Try.prog 172 #[.pointer (some ⟨b, 0, none⟩)] W fun e w' => e = .returned (.bool true) ∧ w' = W := by
  have hs := h.self
  clear h
  have hq := fun w a => run_eql_ptr_same (P := Try.prog) w Try.underlying143 (by kernel_rfl : (Try.prog.info? 230).isSome = true) a
  go_enter Try.func172, Try.ntmps172
  go_wp2
  go_ret
  exact ⟨rfl, rfl⟩

set_option maxHeartbeats 800000 in
set_option maxRecDepth 100000 in
theorem listA {W : World} {base b : Nat} {p : Option Addr} {c : Nat} {l : List (Int × ByteArray)} (h : MapA W base b p c l) :
    Calls Try.prog 181 #[.pointer (some ⟨b, 0, none⟩)] W fun e w' => e = .returned (.slice p l.length c) ∧ w' = W := by
  have hp := h.pairs
  have H := Lib.hid h
  clear h
  go_enter Try.func181, Try.ntmps181
  go_wp2_with (go_at_call 172; refine (validA H.out).mono ?_; rintro e w' ⟨rfl, rfl⟩)
  go_ret
  exact ⟨rfl, rfl⟩

set_option maxHeartbeats 800000 in
set_option maxRecDepth 100000 in
/-- pick, at an index that there is. -/
theorem pickA {W : World} {base b : Nat} {p : Option Addr} {c : Nat} {l : List (Int × ByteArray)} (h : MapA W base b p c l) (j : Nat) (x : Int × ByteArray) (hx : l[j]? = some x) :
    Calls Try.prog 177 #[.pointer (some ⟨b, 0, none⟩), .int .i64 j] W fun e w' => e = .returned (.tuple #[Value.int .i64 x.1, Value.string x.2, .bool true]) ∧ Below W.heap.size W w' := by
  have hj : j < l.length := (List.getElem?_eq_some_iff.1 hx).1
  obtain ⟨g, rfl, hc, hk, hv⟩ := h.at hx
  have H := Lib.hid h
  have hl := listA h
  generalize l.length = n at *
  obtain ⟨k, v⟩ := x
  have h0 : ¬ (j : Int) < 0 := by omega
  have h0' : (0 : Int) ≤ (j : Int) := by omega
  have h1 : (j : Int) < (n : Int) := by omega
  clear h hx
  go_enter Try.func177, Try.ntmps177
  go_wp2_with (go_at_call 181; refine hl.mono ?_; rintro e w' ⟨rfl, rfl⟩)
  go_quiet (fail)
  go_wp2
  go_ret3
  exact ⟨rfl, Below.drewN' _ (Below.refl _ _)⟩
end Go.Proofs.Ytpnhklehpilopaa
