/- The contracts of codec in one vocabulary: slices of bytes by what they hold, the tables by one word. -/
import Derived.Test.YtcafenmkcjlhgaaDoorParseHex
import Derived.Test.YtcafenmkcjlhgaaDoorDec
import Derived.Test.YtcafenmkcjlhgaaDoorFmt
import Derived.WalkSmall
namespace Go.Proofs.YtcafenmkcjlhgaaDoor
open Go Go.RowKit

/-- All tables that codec reads stand in memory as the program's text lays them. -/
structure Laid (w : World) : Prop where
  wt : WTab w
  pt : PowTab w
  et : ErrTab w

theorem var_lt {w : World} {n : String} {cs : Array Value} {g : Nat} (hg : Tryd.prog.globalNamed n = some g) (h : w.var? Tryd.prog n = some cs) : g < w.heap.size := by
  unfold World.var? at h
  simp only [hg, Option.bind_some] at h
  rcases Nat.lt_or_ge g w.heap.size with h' | h'
  · exact h'
  · rw [Array.getElem?_eq_none h'] at h; simp at h

theorem gPow : Tryd.prog.globalNamed "internal/strconv.uint64pow10" = some 3 := by kernel_rfl
theorem gErr : Tryd.prog.globalNamed "strconv.ErrRange" = some 2 := by kernel_rfl

theorem Laid.below {w w' : World} (h : Laid w) (hb : Below w.heap.size w w') : Laid w' := by
  refine ⟨h.wt.below hb, ?_, ?_⟩
  · have hp := h.pt
    unfold PowTab Lib.TabIs at hp ⊢
    exact var?_below hb gPow (var_lt gPow hp) hp
  · obtain ⟨tp, p, hv⟩ := h.et
    exact ⟨tp, p, var?_below hb gErr (var_lt gErr hv) hv⟩

/-- The slice at p, n long, holds the bytes l. -/
structure Sl (w : World) (p : Option Addr) (n c : Nat) (l : List Int) : Prop where
  len : l.length = n
  cap : n ≤ c
  bytes : Lib.BytesIn w p n l
  nil : p = none → n = 0 ∧ c = 0
  rng : ∀ x ∈ l, 0 ≤ x ∧ x < 256

theorem Sl.below {w w' : World} {p : Option Addr} {n c : Nat} {l : List Int} (h : Sl w p n c l) (hb : Below w.heap.size w w') : Sl w' p n c l :=
  ⟨h.len, h.cap, bytesIn_below h.bytes hb, h.nil, h.rng⟩

theorem sl_nil (w : World) : Sl w none 0 0 [] := ⟨rfl, Nat.le_refl _, Lib.BytesIn.nil _ _ _, fun _ => ⟨rfl, rfl⟩, fun _ h => by cases h⟩

theorem sl_owns {w : World} {base : Nat} {e : TypeId} {v : Value} {n : Nat} {l : List Int} (h : w.ownsRow base e 1 v n (l.map (Value.int .u8))) (hr : ∀ x ∈ l, 0 ≤ x ∧ x < 256) :
    ∃ p n' c, v = .slice p n' c ∧ Sl w p n' c l := by
  obtain ⟨p, n', c, rfl, h1, h2, h3, h4⟩ := row_owns h
  exact ⟨p, n', c, rfl, h1, h2, h3, h4, hr⟩

/-- A new block that holds just these bytes. -/
theorem sl_new (w : World) (l : List Int) (n : Nat) (hn : l.length = n) (hr : ∀ x ∈ l, 0 ≤ x ∧ x < 256) (e : TypeId) : Sl (w.alloc (.cells (l.map (Value.int .u8)).toArray e)) (some ⟨w.heap.size, 0, none⟩) n n l := by
  refine ⟨hn, Nat.le_refl _, ?_, (fun h => by cases h), hr⟩
  intro _
  refine ⟨_, 0, rfl, fun i hi => ?_⟩
  rw [World.cell?_alloc_new, Nat.zero_add]
  simp [List.getD, show i < l.length by omega]

theorem Append_c {p : Option Addr} {len cap : Nat} {xs : List Int} (n : Int) (m : Nat) (w : World) (h : Laid w) (hw : isW m = true) (hf : fitsI n m = true) (hS : Sl w p len cap xs) (hl : len ≤ 1000000) :
    Calls Tryd.prog 10 #[.slice p len cap, .int .u64 n, .int .i64 m] w fun e w' =>
      ∃ p' n' c', e = .returned (.tuple #[.slice p' n' c', .int .i64 0]) ∧ Sl w' p' n' c' (xs ++ le n m) ∧ Below w.heap.size w w' :=
  (Append_ok p len cap xs n m w h.wt hw hf hl hS.len hS.bytes hS.nil).mono fun e w' ⟨he, hown, hb⟩ => by
    obtain ⟨p', n', c', hv, hs⟩ := sl_owns hown (fun x hx => by
      rcases List.mem_append.1 hx with hx | hx
      · exact hS.rng x hx
      · exact le_rng n m x hx)
    exact ⟨p', n', c', by rw [he, hv], hs, hb⟩

theorem Uint_c {p : Option Addr} {len cap : Nat} {xs : List Int} (at_ m : Nat) (u : Int) (w : World) (h : Laid w) (hw : isW m = true) (hS : Sl w p len cap xs) (hl : len ≤ maxLen) (ha : at_ + m ≤ len) (hu : val ((xs.drop at_).take m) = u) :
    Calls Tryd.prog 12 #[.slice p len cap, .int .i64 at_, .int .i64 m] w fun e w' => e = .returned (.tuple #[.int .u64 u, .int .i64 0]) ∧ w = w' := by
  rw [← hu]
  exact Uint_ok p len cap xs at_ m w h.wt hw hl hS.len hS.bytes ha hS.rng

theorem Hex_c {p : Option Addr} {len cap : Nat} {xs : List Int} (w : World) (hS : Sl w p len cap xs) (hl : len ≤ 1000000) :
    Calls Tryd.prog 19 #[.slice p len cap] w fun e w' => e = .returned (.string (strI (hexI xs))) ∧ Below w.heap.size w w' :=
  Hex_any p len cap xs w hl hS.len hS.bytes hS.rng

theorem ParseHex_ok (s : ByteArray) (w : World) (hl : s.size ≤ 1000000) (hok : phOk (numS s) = true) :
    Calls Tryd.prog 17 #[.string s] w fun e w' => ∃ p n c, e = .returned (.tuple #[.slice p n c, .int .i64 0]) ∧ Sl w' p n c (phV (numS s)) ∧ Below w.heap.size w w' :=
  (ParseHex_any s w hl).mono fun e w' h => by
    obtain ⟨hb, h | h⟩ := h
    · obtain ⟨_, v, he, hown⟩ := h
      obtain ⟨p, n, c, hv, hs⟩ := sl_owns hown (phV_rng _)
      exact ⟨p, n, c, by rw [he, hv], hs, hb⟩
    · rw [hok] at h; cases h.1

theorem ParseHex_bad (s : ByteArray) (w : World) (hl : s.size ≤ 1000000) (hok : phOk (numS s) = false) :
    Calls Tryd.prog 17 #[.string s] w fun e w' => e = .returned (.tuple #[.slice none 0 0, .int .i64 8]) ∧ Below w.heap.size w w' :=
  (ParseHex_any s w hl).mono fun e w' h => by
    obtain ⟨hb, h | h⟩ := h
    · rw [hok] at h; cases h.1
    · exact ⟨h.2, hb⟩

theorem bytesOf_inj {a b : List Int} (ha : ∀ x ∈ a, 0 ≤ x ∧ x < 256) (hb : ∀ x ∈ b, 0 ≤ x ∧ x < 256) (h : Lib.bytesOf a = Lib.bytesOf b) : a = b := by
  induction a generalizing b with
  | nil => cases b with
    | nil => rfl
    | cons y s => simp [Lib.bytesOf] at h
  | cons x r ih => cases b with
    | nil => simp [Lib.bytesOf] at h
    | cons y s =>
      simp only [Lib.bytesOf, List.map_cons, List.cons.injEq] at h
      have hx := ha x (by simp)
      have hy := hb y (by simp)
      have h1 := congrArg UInt8.toNat h.1
      simp only [UInt8.toNat_ofNat'] at h1
      have e : x = y := by omega
      rw [e, ih (fun z hz => ha z (by simp [hz])) (fun z hz => hb z (by simp [hz])) h.2]

theorem Equal_c {p1 p2 : Option Addr} {n c m d : Nat} {xs ys : List Int} (w : World) (h1 : Sl w p1 n c xs) (h2 : Sl w p2 m d ys) :
    Calls Tryd.prog 14 #[.slice p1 n c, .slice p2 m d] w fun e w' => e = .returned (.bool (decide (xs = ys))) ∧ w = w' :=
  (Tryd.bytes_Equal_all p1 p2 n c m d xs ys w h1.len h2.len h1.bytes h2.bytes).mono fun e w' ⟨he, hw⟩ => by
    refine ⟨?_, hw.symm⟩
    rw [he]
    congr 2
    rw [Bool.eq_iff_iff, beq_iff_eq, decide_eq_true_eq]
    exact ⟨bytesOf_inj h1.rng h2.rng, fun h => by rw [h]⟩

theorem Equal_yes {p1 p2 : Option Addr} {n c m d : Nat} {xs ys : List Int} (w : World) (h1 : Sl w p1 n c xs) (h2 : Sl w p2 m d ys) (h : xs = ys) :
    Calls Tryd.prog 14 #[.slice p1 n c, .slice p2 m d] w fun e w' => e = .returned (.bool true) ∧ w = w' :=
  (Equal_c w h1 h2).mono fun e w' ⟨he, hw⟩ => ⟨by rw [he, decide_eq_true h], hw⟩

theorem Digits_c (u : Nat) (hu64 : u < 18446744073709551616) (w : World) (h : Laid w) :
    Calls Tryd.prog 23 #[.int .u64 u] w fun e w' => e = .returned (.string ⟨(Lib.decDigits u).toArray⟩) ∧ Below w.heap.size w w' :=
  Digits_any u hu64 w h.pt

theorem ParseDigits_c (s : ByteArray) (a b : Int) (w : World) (h : Laid w) (hl : s.size ≤ 1000000) (hr : pdRes s.data.toList = (a, b)) :
    Calls Tryd.prog 21 #[.string s] w fun e w' => e = .returned (.tuple #[.int .u64 a, .int .i64 b]) ∧ Below w.heap.size w w' := by
  have := ParseDigits_any s w hl h.et
  rw [hr] at this
  exact this
end Go.Proofs.YtcafenmkcjlhgaaDoor
