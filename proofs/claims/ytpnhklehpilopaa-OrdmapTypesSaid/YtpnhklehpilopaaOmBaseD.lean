/- An ordered map in memory, and the functions that only ask it. -/
import Derived.Test.YtpnhklehpilopaaOmInsD
import Derived.Test.YtpnhklehpilopaaOmSearch
import Derived.Test.YtpnhklehpilopaaOmMath
import Derived.Test.YtpnhklehpilopaaOmOrd
import Derived.Test.YtpnhklehpilopaaOmOrdS
import Derived.Deep.QuietTactic
import Derived.BigQuiet
import Derived.Outline
import Derived.WalkLawsBesides
namespace Go.Proofs.Ytpnhklehpilopaa
open Go Go.RowKit

/-- A value. -/
abbrev pvD (x : Int × ByteArray) : Value := .agg #[.int .i64 x.1, .string x.2]

/-- A key with its value, in cells. -/
def celD (p : Int × (Int × ByteArray)) : List Value := [.int .u8 p.1, .int .i64 p.2.1, .string p.2.2]

theorem celD_ok (p : Int × (Int × ByteArray)) : (celD p).length = 3 ∧ ∀ u ∈ celD p, u.oneCell' = true := ⟨rfl, by intro u hu; simp [celD] at hu; rcases hu with rfl | rfl | rfl <;> rfl⟩

/-- At block b lies a map with just these keys and values; its pairs lie in a row of their own. -/
structure MapD (W : World) (base b : Nat) (p : Option Addr) (c : Nat) (l : List (Int × (Int × ByteArray))) : Prop where
  head : W.heap[b]? = some (.cells #[.pointer (some ⟨b, 0, none⟩), .slice p l.length c] 188 (0, 0))
  low : base ≤ b
  row : RowIs W base 195 3 (.slice p l.length c) (l.map celD)
  apart : ∀ a, p = some a → a.block ≠ b
  srt : Srt ltI l

theorem MapD.lt {W : World} {base b : Nat} {p : Option Addr} {c : Nat} {l : List (Int × (Int × ByteArray))} (h : MapD W base b p c l) : b < W.heap.size := (Array.getElem?_eq_some_iff.1 h.head).1

theorem MapD.own {W : World} {base b : Nat} {p : Option Addr} {c : Nat} {l : List (Int × (Int × ByteArray))} (h : MapD W base b p c l) {a : Addr} (ha : p = some a) : base ≤ a.block ∧ a.block < W.heap.size := by
  subst ha
  exact h.row.lt a.block rfl

/-- What leaves the two blocks of the map alone leaves the map alone. -/
theorem MapD.same {W W' : World} {base b : Nat} {p : Option Addr} {c : Nat} {l : List (Int × (Int × ByteArray))} (h : MapD W base b p c l) (hs : W.heap.size ≤ W'.heap.size)
    (hb : W'.heap[b]? = W.heap[b]?) (hr : ∀ a, p = some a → W'.heap[a.block]? = W.heap[a.block]?) : MapD W' base b p c l := by
  refine ⟨hb.trans h.head, h.low, ⟨⟨h.row.1.1, ?_⟩, h.row.2⟩, h.apart, h.srt⟩
  rcases h.row.1.2 with h1 | ⟨g, cap, cur, h1, h2, h3, h4⟩
  · exact .inl h1
  · refine .inr ⟨g, cap, cur, h1, h2, ?_, h4⟩
    have : p = some ⟨g, 0, none⟩ := by injection h1
    exact (hr _ this).trans h3

theorem MapD.below {W W' : World} {base b : Nat} {p : Option Addr} {c : Nat} {l : List (Int × (Int × ByteArray))} (h : MapD W base b p c l) (hb : Below W.heap.size W W') : MapD W' base b p c l :=
  h.same hb.size (hb.block b h.lt) (fun _ ha => hb.block _ (h.own ha).2)

theorem MapD.self {W : World} {base b : Nat} {p : Option Addr} {c : Nat} {l : List (Int × (Int × ByteArray))} (h : MapD W base b p c l) : W.cell? ⟨b, 0, none⟩ = some (.pointer (some ⟨b, 0, none⟩)) := by
  simp [World.cell?, h.head]
theorem MapD.pairs {W : World} {base b : Nat} {p : Option Addr} {c : Nat} {l : List (Int × (Int × ByteArray))} (h : MapD W base b p c l) : W.cell? ⟨b, 1, none⟩ = some (.slice p l.length c) := by
  simp [World.cell?, h.head]

/-- The cells of a key and its value. -/
theorem MapD.at {W : World} {base b : Nat} {p : Option Addr} {c : Nat} {l : List (Int × (Int × ByteArray))} (h : MapD W base b p c l) {j : Nat} {x : Int × (Int × ByteArray)} (hx : l[j]? = some x) :
    ∃ g, p = some ⟨g, 0, none⟩ ∧ l.length ≤ c ∧ W.cell? ⟨g, j * 3, none⟩ = some (.int .u8 x.1) ∧ W.cell? ⟨g, j * 3 + 1, none⟩ = some (.int .i64 x.2.1) ∧ W.cell? ⟨g, j * 3 + 2, none⟩ = some (.string x.2.2) := by
  have hj : j < l.length := (List.getElem?_eq_some_iff.1 hx).1
  rcases h.row.parts with ⟨h1, h2⟩ | ⟨g, cap, cur, h1, h2, h3, h4, h5, h6, h7⟩
  · have : l = [] := by simpa using h2
    subst this
    simp at hj
  · injection h1 with e1 e2 e3
    subst e3
    have hm : (l.map celD)[j]? = some (celD x) := by simp [hx]
    refine ⟨g, e1, by simpa using h4, ?_, ?_, ?_⟩
    · exact row_cell (i := j) (j := 0) h.row.2 h3 h7 hm rfl
    · exact row_cell (i := j) (j := 1) h.row.2 h3 h7 hm rfl
    · exact row_cell (i := j) (j := 2) h.row.2 h3 h7 hm rfl

set_option maxHeartbeats 800000 in
set_option maxRecDepth 100000 in
theorem validD {W : World} {base b : Nat} {p : Option Addr} {c : Nat} {l : List (Int × (Int × ByteArray))} (h : MapD W base b p c l) :
    Calls Try.prog 130 #[.pointer (some ⟨b, 0, none⟩)] W fun e w' => e = .returned (.bool true) ∧ w' = W := by
  have hs := h.self
  clear h
  have hq := fun w a => run_eql_ptr_same (P := Try.prog) w Try.underlying73 (by kernel_rfl : (Try.prog.info? 188).isSome = true) a
  go_enter Try.func130, Try.ntmps130
  go_wp2
  go_ret
  exact ⟨rfl, rfl⟩

set_option maxHeartbeats 800000 in
set_option maxRecDepth 100000 in
theorem listD {W : World} {base b : Nat} {p : Option Addr} {c : Nat} {l : List (Int × (Int × ByteArray))} (h : MapD W base b p c l) :
    Calls Try.prog 139 #[.pointer (some ⟨b, 0, none⟩)] W fun e w' => e = .returned (.slice p l.length c) ∧ w' = W := by
  have hp := h.pairs
  have H := Lib.hid h
  clear h
  go_enter Try.func139, Try.ntmps139
  go_wp2_with (go_at_call 130; refine (validD H.out).mono ?_; rintro e w' ⟨rfl, rfl⟩)
  go_ret
  exact ⟨rfl, rfl⟩

set_option maxHeartbeats 800000 in
set_option maxRecDepth 100000 in
/-- pick, at an index that there is. -/
theorem pickD {W : World} {base b : Nat} {p : Option Addr} {c : Nat} {l : List (Int × (Int × ByteArray))} (h : MapD W base b p c l) (j : Nat) (x : Int × (Int × ByteArray)) (hx : l[j]? = some x) :
    Calls Try.prog 200 #[.pointer (some ⟨b, 0, none⟩), .int .i64 j] W fun e w' => e = .returned (.tuple #[Value.int .u8 x.1, pvD x.2, .bool true]) ∧ Below W.heap.size W w' := by
  have hj : j < l.length := (List.getElem?_eq_some_iff.1 hx).1
  have hA : Below W.heap.size W (W.alloc (.cells #[.int .i64 0, .string ⟨#[]⟩] 76)) := (Below.refl _ _).alloc (Nat.le_refl _) _
  have hl := listD (h.below hA)
  obtain ⟨g, rfl, hc, hk, hv, hv2⟩ := (h.below hA).at hx
  have H := Lib.hid h
  generalize l.length = n at *
  obtain ⟨k, v, s⟩ := x
  have h0 : ¬ (j : Int) < 0 := by omega
  have h0' : (0 : Int) ≤ (j : Int) := by omega
  have h1 : (j : Int) < (n : Int) := by omega
  have HA := Lib.hid hA
  clear h hx hA
  go_enter Try.func200, Try.ntmps200
  go_wp2_with (go_at_call 139; refine hl.mono ?_; rintro e w' ⟨rfl, rfl⟩)
  go_region
  all_goals go_wp2
  exact bodyPost_ret (v := .tuple #[.int .u8 k, .agg #[.int .i64 v, .string s], .bool true]) (by simp [results, Try.results200, go_sem]) rfl ⟨rfl, Below.drewN' 1 ((Below.refl _ _).alloc (Nat.le_refl _) _)⟩
end Go.Proofs.Ytpnhklehpilopaa
