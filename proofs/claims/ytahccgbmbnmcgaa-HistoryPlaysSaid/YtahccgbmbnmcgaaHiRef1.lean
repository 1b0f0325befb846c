/- The document's own history (drumlinref07) in memory, and the functions that only ask it. -/
import Derived.Test.YtahccgbmbnmcgaaHiReadsS
import Derived.Test.YtahccgbmbnmcgaaHiCopyS
namespace Go.Proofs.Ytahccgbmbnmcgaa
open Go Go.RowKit

/-- At block b lies the document's list of at most lim elements: these, of which the first m are marked. -/
structure RL (W : World) (b : Nat) (p : Option Addr) (c lim m : Nat) (l : List ByteArray) : Prop where
  head : W.heap[b]? = some (.cells #[.bool true, .slice p l.length c, .int .i64 (m : Nat), .int .i64 (lim : Nat)] 82 (0, 0))
  row : RowIs W 0 9 1 (.slice p l.length c) (l.map celS)
  apart : ∀ a, p = some a → a.block ≠ b
  ml : m ≤ l.length
  ll : l.length ≤ lim
  lm : lim ≤ 100000

section
variable {W W' : World} {b : Nat} {p : Option Addr} {c lim m : Nat} {l : List ByteArray}

theorem RL.lt (h : RL W b p c lim m l) : b < W.heap.size := (Array.getElem?_eq_some_iff.1 h.head).1
theorem RL.own (h : RL W b p c lim m l) {a : Addr} (ha : p = some a) : a.block < W.heap.size := by
  subst ha
  exact (h.row.lt a.block rfl).2
theorem RL.same (h : RL W b p c lim m l) (hb : W'.heap[b]? = W.heap[b]?) (hr : ∀ a, p = some a → W'.heap[a.block]? = W.heap[a.block]?) : RL W' b p c lim m l := by
  refine ⟨hb.trans h.head, ⟨⟨h.row.1.1, ?_⟩, h.row.2⟩, h.apart, h.ml, h.ll, h.lm⟩
  rcases h.row.1.2 with h1 | ⟨g, cap, cur, h1, h2, h3, h4⟩
  · exact .inl h1
  · refine .inr ⟨g, cap, cur, h1, h2, ?_, h4⟩
    have : p = some ⟨g, 0, none⟩ := by injection h1
    exact (hr _ this).trans h3
theorem RL.below (h : RL W b p c lim m l) (hb : Below W.heap.size W W') : RL W' b p c lim m l :=
  h.same (hb.block b h.lt) (fun _ ha => hb.block _ (h.own ha))
theorem RL.made (h : RL W b p c lim m l) : W.cell? ⟨b, 0, none⟩ = some (.bool true) := by simp [World.cell?, h.head]
theorem RL.els (h : RL W b p c lim m l) : W.cell? ⟨b, 1, none⟩ = some (.slice p l.length c) := by simp [World.cell?, h.head]
theorem RL.mrk (h : RL W b p c lim m l) : W.cell? ⟨b, 2, none⟩ = some (.int .i64 (m : Nat)) := by simp [World.cell?, h.head]
theorem RL.limit (h : RL W b p c lim m l) : W.cell? ⟨b, 3, none⟩ = some (.int .i64 (lim : Nat)) := by simp [World.cell?, h.head]
theorem RL.frozen (h : RL W b p c lim m l) (o : Nat) : W.frozen? ⟨b, o, none⟩ = false := by simp [World.frozen?, h.head]

theorem row_parts {w : World} (h : RowIs w 0 9 1 (.slice p l.length c) (l.map celS)) : (p = none ∧ c = 0 ∧ l = []) ∨ ∃ g, p = some ⟨g, 0, none⟩ ∧ l.length ≤ c ∧ ∀ j x, l[j]? = some x → w.cell? ⟨g, j, none⟩ = some (.string x) := by
  rcases h.parts with ⟨h1, h2⟩ | ⟨g, cap, cur, h1, h2, h3, h4, h5, h6, h7⟩
  · injection h1 with e1 e2 e3
    exact .inl ⟨e1, e3, by simpa using h2⟩
  · injection h1 with e1 e2 e3
    subst e3
    refine .inr ⟨g, e1, by simpa using h4, fun j x hx => ?_⟩
    have hm : (l.map celS)[j]? = some (celS x) := by simp [hx]
    have := row_cell (i := j) (j := 0) h.2 h3 h7 hm rfl
    simpa using this

theorem RL.rd (h : RL W b p c lim m l) : RdS W p l := fun j x hx => by
  rcases row_parts h.row with ⟨-, -, h3⟩ | ⟨g, h1, -, h3⟩
  · subst h3; simp at hx
  · exact ⟨g, 0, h1, by rw [Nat.zero_add]; exact h3 j x hx⟩

theorem RL.setM (h : RL W b p c lim m l) (m' : Nat) (hm : m' ≤ l.length) : RL (W.setCell ⟨b, 2, none⟩ (.int .i64 (m' : Nat))) b p c lim m' l := by
  refine ⟨?_, h.row.kept (row := some b) ⟨rfl, rfl, rfl, by simp [World.setCell], fun k _ hk => Below.heap_setCell _ _ _ _ (fun e => hk (by rw [e]))⟩ (.inr ?_), h.apart, hm, h.ll, h.lm⟩
  · rw [setCell_eq_setRow W b 2 _ _ (0, 0) _ h.head]
    exact setRow_heap W b _ _ _ _ h.head
  · cases p with
    | none => simp [Value.ownBlock]
    | some a => simp only [Value.ownBlock]; intro e; injection e with e; exact h.apart a rfl e

/-- Other elements, in a row that is new. -/
theorem RL.newRow {w' : World} {l' : List ByteArray} {p' : Option Addr} {c' : Nat} (h : RL W b p c lim m l) (hb : Below W.heap.size W w') (hrow : RowIs w' 0 9 1 (.slice p' l'.length c') (l'.map celS)) (hp : ∀ a, p' = some a → W.heap.size ≤ a.block) (hm : m ≤ l'.length) (hs : l'.length ≤ lim) :
    RL (w'.setCell ⟨b, 1, none⟩ (.slice p' l'.length c')) b p' c' lim m l' ∧ Touch b none W (w'.setCell ⟨b, 1, none⟩ (.slice p' l'.length c')) := by
  have hb' := (hb.block b h.lt).trans h.head
  refine ⟨⟨?_, hrow.kept (row := some b) ⟨rfl, rfl, rfl, by simp [World.setCell], fun k _ hk => Below.heap_setCell _ _ _ _ (fun e => hk (by rw [e]))⟩ (.inr ?_), fun a ha => by have := hp a ha; have := h.lt; omega, hm, hs, h.lm⟩, (Touch.of_below hb).set _ _⟩
  · rw [setCell_eq_setRow w' b 1 _ _ (0, 0) _ hb']
    exact setRow_heap w' b _ _ _ _ hb'
  · cases p' with
    | none => simp [Value.ownBlock]
    | some a => simp only [Value.ownBlock]; intro e; injection e with e; have := hp a rfl; have := h.lt; omega

theorem RL.clr (h : RL W b p c lim m l) :
    RL ((W.setCell ⟨b, 1, none⟩ (.slice none 0 0)).setCell ⟨b, 2, none⟩ (.int .i64 0)) b none 0 lim 0 [] ∧ Touch b none W ((W.setCell ⟨b, 1, none⟩ (.slice none 0 0)).setCell ⟨b, 2, none⟩ (.int .i64 0)) := by
  refine ⟨⟨?_, ⟨World.ownsRow_nil _ _ _ _, (fun e he => by simp at he)⟩, (fun a ha => by cases ha), Nat.le_refl _, Nat.zero_le _, h.lm⟩, (Touch.set (Touch.set (Touch.of_below (Below.refl _ _)) _ _) _ _)⟩
  have h1 : (W.setCell ⟨b, 1, none⟩ (.slice none 0 0)).heap[b]? = some (.cells #[.bool true, .slice none 0 0, .int .i64 (m : Nat), .int .i64 (lim : Nat)] 82 (0, 0)) := by
    rw [setCell_eq_setRow W b 1 _ _ (0, 0) _ h.head]
    exact setRow_heap W b _ _ _ _ h.head
  rw [setCell_eq_setRow _ b 2 _ _ (0, 0) _ h1]
  exact setRow_heap _ b _ _ _ _ h1

set_option maxHeartbeats 800000 in
set_option maxRecDepth 100000 in
theorem rvalid (h : RL W b p c lim m l) :
    Calls Try.prog 46 #[.pointer (some ⟨b, 0, none⟩)] W fun e w' => e = .returned (.bool true) ∧ w' = W := by
  have hs := h.made
  clear h
  go_enter Try.func46, Try.ntmps46
  go_wp2
  go_ret
  exact ⟨rfl, rfl⟩

set_option maxHeartbeats 800000 in
set_option maxRecDepth 100000 in
theorem rlen (h : RL W b p c lim m l) :
    Calls Try.prog 53 #[.pointer (some ⟨b, 0, none⟩)] W fun e w' => e = .returned (.int .i64 l.length) ∧ w' = W := by
  have hp := h.els
  have hv := rvalid h
  clear h
  generalize l.length = n at *
  go_enter Try.func53, Try.ntmps53
  go_wp2_with (go_at_call 46; refine hv.mono ?_; rintro e w' ⟨rfl, rfl⟩)
  go_ret
  exact ⟨rfl, rfl⟩

set_option maxHeartbeats 800000 in
set_option maxRecDepth 100000 in
theorem rmarked (h : RL W b p c lim m l) :
    Calls Try.prog 54 #[.pointer (some ⟨b, 0, none⟩)] W fun e w' => e = .returned (.int .i64 (m : Nat)) ∧ w' = W := by
  have hp := h.mrk
  have hv := rvalid h
  clear h
  go_enter Try.func54, Try.ntmps54
  go_wp2_with (go_at_call 46; refine hv.mono ?_; rintro e w' ⟨rfl, rfl⟩)
  go_ret
  exact ⟨rfl, rfl⟩

set_option maxHeartbeats 800000 in
set_option maxRecDepth 100000 in
theorem rmark (h : RL W b p c lim m l) :
    Calls Try.prog 16 #[.pointer (some ⟨b, 0, none⟩)] W fun e w' => (∃ v, e = .returned v) ∧ RL w' b p c lim l.length l ∧ Touch b none W w' := by
  have hp := h.els
  have hk := h.mrk
  have hf := h.frozen
  have hv := rvalid h
  have H : Hid (RL (W.setCell ⟨b, 2, none⟩ (.int .i64 l.length)) b p c lim l.length l ∧ Touch b none W (W.setCell ⟨b, 2, none⟩ (.int .i64 l.length))) := Lib.hid ⟨h.setM l.length (Nat.le_refl _), Touch.set (Touch.of_below (Below.refl _ _)) _ _⟩
  clear h
  generalize l.length = n at *
  go_enter Try.func16, Try.ntmps16
  go_wp2_with (go_at_call 46; refine hv.mono ?_; rintro e w' ⟨rfl, rfl⟩)
  go_end0
  exact ⟨⟨_, rfl⟩, H.out⟩

set_option maxHeartbeats 800000 in
set_option maxRecDepth 100000 in
theorem rclear (h : RL W b p c lim m l) :
    Calls Try.prog 20 #[.pointer (some ⟨b, 0, none⟩)] W fun e w' => (∃ v, e = .returned v) ∧ RL w' b none 0 lim 0 [] ∧ Touch b none W w' := by
  have hp := h.els
  have hk := h.mrk
  have hf := h.frozen
  have hv := rvalid h
  have H := Lib.hid h.clr
  clear h
  generalize l.length = n at *
  go_enter Try.func20, Try.ntmps20
  go_wp2_with (go_at_call 46; refine hv.mono ?_; rintro e w' ⟨rfl, rfl⟩)
  go_end0
  exact ⟨⟨_, rfl⟩, H.out⟩

set_option maxHeartbeats 800000 in
set_option maxRecDepth 100000 in
theorem rat (h : RL W b p c lim m l) (j : Nat) (x : ByteArray) (hx : l[j]? = some x) :
    Calls Try.prog 49 #[.pointer (some ⟨b, 0, none⟩), .int .i64 j] W fun e w' => e = .returned (.tuple #[.string x, .int .i64 0]) ∧ w' = W := by
  have hj : j < l.length := (List.getElem?_eq_some_iff.1 hx).1
  obtain ⟨g, hpg, hc, hg⟩ : ∃ g, p = some ⟨g, 0, none⟩ ∧ l.length ≤ c ∧ W.cell? ⟨g, j, none⟩ = some (.string x) := by
    rcases row_parts h.row with ⟨-, -, h3⟩ | ⟨g, h1, h2, h3⟩
    · subst h3; simp at hx
    · exact ⟨g, h1, h2, h3 j x hx⟩
  subst hpg
  have hp := h.els
  have hv := rvalid h
  generalize l.length = n at *
  have h0 : ¬ (j : Int) < 0 := by omega
  have h0' : (0 : Int) ≤ (j : Int) := by omega
  have h1 : (j : Int) < (n : Int) := by omega
  clear h hx
  go_enter Try.func49, Try.ntmps49
  go_wp2_with (go_at_call 46; refine hv.mono ?_; rintro e w' ⟨rfl, rfl⟩)
  go_ret2
  exact ⟨rfl, rfl⟩

set_option maxHeartbeats 800000 in
set_option maxRecDepth 100000 in
theorem ratBad (h : RL W b p c lim m l) (j : Int) (hj : j < 0 ∨ (l.length : Int) ≤ j) :
    Calls Try.prog 49 #[.pointer (some ⟨b, 0, none⟩), .int .i64 j] W fun e w' => e = .returned (.tuple #[.string ⟨#[]⟩, .int .i64 3]) ∧ w' = W := by
  have hp := h.els
  have hv := rvalid h
  generalize l.length = n at *
  clear h
  by_cases h0 : j < 0
  · have hd : decide (j < 0) = true := by simpa using h0
    clear hj
    go_enter Try.func49, Try.ntmps49
    go_wp2_with (go_at_call 46; refine hv.mono ?_; rintro e w' ⟨rfl, rfl⟩)
    go_ret2
    exact ⟨rfl, rfl⟩
  · have hd : decide (j < 0) = false := by simpa using h0
    have h1 : (n : Int) ≤ j := by omega
    have hd2 : decide ((n : Int) ≤ j) = true := by simpa using h1
    clear hj
    go_enter Try.func49, Try.ntmps49
    go_wp2_with (go_at_call 46; refine hv.mono ?_; rintro e w' ⟨rfl, rfl⟩)
    go_ret2
    exact ⟨rfl, rfl⟩
end

set_option maxHeartbeats 800000 in
set_option maxRecDepth 100000 in
theorem rnew (lim : Nat) (h2 : lim ≤ 100000) (W : World) : Calls Try.prog 12 #[.int .i64 (lim : Nat)] W fun e w' => e = .returned (.tuple #[.pointer (some ⟨W.heap.size, 0, none⟩), .int .i64 0]) ∧ RL w' W.heap.size none 0 lim 0 [] ∧ Below W.heap.size W w' ∧ w'.heap.size = W.heap.size + 1 := by
  have h3 : ¬ (lim : Int) < 0 := by omega
  have h4 : ¬ (100000 : Int) < (lim : Int) := by omega
  go_enter Try.func12, Try.ntmps12
  go_wp2_with fail
  go_ret2
  exact ⟨rfl, ⟨heap_alloc_new W _, ⟨World.ownsRow_nil _ _ _ _, (fun e he => by simp at he)⟩, (fun a h => by cases h), Nat.le_refl _, Nat.zero_le _, h2⟩, (Below.refl _ _).alloc (Nat.le_refl _) _, by simp⟩

set_option maxHeartbeats 800000 in
set_option maxRecDepth 100000 in
theorem rnewBad (S : Int) (h : S < 0 ∨ 100000 < S) (W : World) : Calls Try.prog 12 #[.int .i64 S] W fun e w' => e = .returned (.tuple #[.pointer none, .int .i64 2]) ∧ w' = W := by
  by_cases h1 : S < 0
  · have hd : decide (S < 0) = true := by simpa using h1
    clear h
    go_enter Try.func12, Try.ntmps12
    go_wp2_with fail
    go_ret2
    exact ⟨rfl, rfl⟩
  · have hd : decide (S < 0) = false := by simpa using h1
    have h2 : decide (100000 < S) = true := by simp; omega
    have h3 : 100000 < S := by omega
    clear h
    go_enter Try.func12, Try.ntmps12
    go_wp2_with fail
    go_ret2
    exact ⟨rfl, rfl⟩
end Go.Proofs.Ytahccgbmbnmcgaa
