/- The document's own sets in memory. -/
import Derived.Test.YtejkbanecbjdoaaSsFill
namespace Go.Proofs.Ytejkbanecbjdoaa
open Go Go.RowKit

attribute [local go_sem] Oper.semAt_some

/-- n booleans at the beginning of a block of c. -/
structure RB (W : World) (b n c : Nat) (f : Nat → Bool) : Prop where
  ex : ∃ cur : Array Value, W.heap[b]? = some (.cells cur 4 (0, 0)) ∧ cur.size = c ∧ ∀ k, k < n → cur[k]? = some (.bool (f k))
  le : n ≤ c

/-- At block r lies a set of the document's: its booleans lie in block bi. -/
structure RefAt (W : World) (r bi c n : Nat) (f : Nat → Bool) : Prop where
  head : W.heap[r]? = some (.cells #[.slice (some ⟨bi, 0, none⟩) n c] 68 (0, 0))
  row : RB W bi n c f
  ne : bi ≠ r
  pos : 1 ≤ n
  top : n ≤ 34
  cap : c ≤ 9223372036854775807

section
variable {W W' : World} {b n c r bi : Nat} {f g : Nat → Bool}

theorem RB.lt (h : RB W b n c f) : b < W.heap.size := by obtain ⟨cur, h1, _⟩ := h.ex; exact (Array.getElem?_eq_some_iff.1 h1).1
theorem RB.same (h : RB W b n c f) (hb : W'.heap[b]? = W.heap[b]?) : RB W' b n c f := by
  obtain ⟨cur, h1, h2⟩ := h.ex
  exact ⟨⟨cur, hb.trans h1, h2⟩, h.le⟩
theorem RB.cell (h : RB W b n c f) {k : Nat} (hk : k < n) : W.cell? ⟨b, k, none⟩ = some (.bool (f k)) := by
  obtain ⟨cur, h1, _, h3⟩ := h.ex
  simp only [World.cell?, h1]
  exact h3 k hk
theorem RB.frozen (h : RB W b n c f) (k : Nat) : W.frozen? ⟨b, k, none⟩ = false := by
  obtain ⟨cur, h1, _⟩ := h.ex
  simp [World.frozen?, h1]
theorem RB.set (h : RB W b n c f) (k : Nat) (hk : k < n) (v : Bool) : RB (W.setCell ⟨b, k, none⟩ (.bool v)) b n c (updB f k v) := by
  obtain ⟨cur, h1, h2, h3⟩ := h.ex
  refine ⟨⟨cur.setIfInBounds k (.bool v), ?_, by simpa using h2, ?_⟩, h.le⟩
  · rw [setCell_eq_setRow W b k _ _ (0, 0) _ h1]
    exact setRow_heap W b _ _ _ _ h1
  · intro j hj
    rw [Array.getElem?_setIfInBounds]
    by_cases e : k = j
    · subst e
      rw [if_pos rfl, if_pos (by have := h.le; omega), updB, if_pos rfl]
    · rw [if_neg e, h3 j hj, updB, if_neg (fun e2 => e e2.symm)]
theorem RB.congr (h : RB W b n c f) (hf : ∀ k, k < n → f k = g k) : RB W b n c g := by
  obtain ⟨cur, h1, h2, h3⟩ := h.ex
  exact ⟨⟨cur, h1, h2, fun k hk => by rw [h3 k hk, hf k hk]⟩, h.le⟩

theorem RefAt.lt (h : RefAt W r bi c n f) : r < W.heap.size := (Array.getElem?_eq_some_iff.1 h.head).1
theorem RefAt.same (h : RefAt W r bi c n f) (h1 : W'.heap[r]? = W.heap[r]?) (h2 : W'.heap[bi]? = W.heap[bi]?) : RefAt W' r bi c n f := ⟨h1.trans h.head, h.row.same h2, h.ne, h.pos, h.top, h.cap⟩
theorem RefAt.below (h : RefAt W r bi c n f) (hb : Below W.heap.size W W') : RefAt W' r bi c n f := h.same (hb.block r h.lt) (hb.block bi h.row.lt)
theorem RefAt.congr (h : RefAt W r bi c n f) (hf : ∀ k, k < n → f k = g k) : RefAt W r bi c n g := ⟨h.head, h.row.congr hf, h.ne, h.pos, h.top, h.cap⟩
theorem RefAt.slice (h : RefAt W r bi c n f) : W.cell? ⟨r, 0, none⟩ = some (.slice (some ⟨bi, 0, none⟩) n c) := by simp [World.cell?, h.head]
theorem RefAt.write (h : RefAt W r bi c n f) (k : Nat) (hk : k < n) (v : Bool) : RefAt (W.setCell ⟨bi, k, none⟩ (.bool v)) r bi c n (updB f k v) ∧ Only bi W (W.setCell ⟨bi, k, none⟩ (.bool v)) :=
  ⟨⟨(Below.heap_setCell _ _ _ _ (by show r ≠ bi; exact fun e => h.ne e.symm)).trans h.head, h.row.set k hk v, h.ne, h.pos, h.top, h.cap⟩, rfl, rfl, rfl, by simp [World.setCell], fun j _ hj => Below.heap_setCell _ _ _ _ hj⟩

set_option maxHeartbeats 800000 in
set_option maxRecDepth 100000 in
theorem rvalid (h : RefAt W r bi c n f) : Calls Try.prog 46 #[.pointer (some ⟨r, 0, none⟩)] W fun e w' => e = .returned (.bool true) ∧ w' = W := by
  have hs := h.slice
  have hp : 0 < n := by have := h.pos; omega
  clear h
  go_enter Try.func46, Try.ntmps46
  go_wp2
  go_ret
  exact ⟨rfl, rfl⟩

set_option maxHeartbeats 800000 in
set_option maxRecDepth 100000 in
theorem rvalidN (W : World) : Calls Try.prog 46 #[.pointer none] W fun e w' => e = .returned (.bool false) ∧ w' = W := by
  go_enter Try.func46, Try.ntmps46
  go_wp2
  go_ret
  exact ⟨rfl, rfl⟩

set_option maxHeartbeats 800000 in
set_option maxRecDepth 100000 in
theorem rset (h : RefAt W r bi c n f) (k : Nat) (hk : k < n) (v : Bool) : Calls Try.prog 42 #[.pointer (some ⟨r, 0, none⟩), .int .i64 (k : Nat), .bool v] W fun e w' => e = .returned (.int .i64 0) ∧ RefAt w' r bi c n (updB f k v) ∧ Only bi W w' := by
  have hv := rvalid h
  have hs := h.slice
  have hc := h.row.cell hk
  have hf := h.row.frozen k
  have HF := Lib.hid (h.write k hk v)
  have h0 : (0 : Int) ≤ (k : Int) := by omega
  have h1 : (k : Int) < (n : Int) := by omega
  clear h hk
  go_enter Try.func42, Try.ntmps42
  go_wp2_with (go_at_call 46; refine hv.mono ?_; rintro e w' ⟨rfl, rfl⟩)
  go_ret
  exact ⟨rfl, HF.out⟩

set_option maxHeartbeats 800000 in
set_option maxRecDepth 100000 in
theorem rsetOut (h : RefAt W r bi c n f) (i : Int) (hi : i < 0 ∨ (n : Int) ≤ i) (v : Bool) : Calls Try.prog 42 #[.pointer (some ⟨r, 0, none⟩), .int .i64 i, .bool v] W fun e w' => e = .returned (.int .i64 3) ∧ w' = W := by
  have hv := rvalid h
  have hs := h.slice
  clear h
  by_cases h0 : i < 0
  · have hd : decide (i < 0) = true := by simpa using h0
    clear hi
    go_enter Try.func42, Try.ntmps42
    go_wp2_with (go_at_call 46; refine hv.mono ?_; rintro e w' ⟨rfl, rfl⟩)
    go_ret
    exact ⟨rfl, rfl⟩
  · have hd : decide (i < 0) = false := by simpa using h0
    have h1 : (n : Int) ≤ i := by omega
    have hd1 : decide ((n : Int) ≤ i) = true := by simpa using h1
    clear hi
    go_enter Try.func42, Try.ntmps42
    go_wp2_with (go_at_call 46; refine hv.mono ?_; rintro e w' ⟨rfl, rfl⟩)
    go_ret
    exact ⟨rfl, rfl⟩

set_option maxHeartbeats 800000 in
set_option maxRecDepth 100000 in
theorem rsetN (i : Int) (v : Bool) (W : World) : Calls Try.prog 42 #[.pointer none, .int .i64 i, .bool v] W fun e w' => e = .returned (.int .i64 1) ∧ w' = W := by
  have hv := rvalidN W
  go_enter Try.func42, Try.ntmps42
  go_wp2_with (go_at_call 46; refine hv.mono ?_; rintro e w' ⟨rfl, rfl⟩)
  go_ret
  exact ⟨rfl, rfl⟩

set_option maxHeartbeats 800000 in
set_option maxRecDepth 100000 in
/-- Add: what set answers. -/
theorem radd_of {v : Option Addr} {i ea : Int} {P : World → Prop} (h : Calls Try.prog 42 #[.pointer v, .int .i64 i, .bool true] W fun e w' => e = .returned (.int .i64 ea) ∧ P w') :
    Calls Try.prog 16 #[.pointer v, .int .i64 i] W fun e w' => e = .returned (.int .i64 ea) ∧ P w' := by
  go_enter Try.func16, Try.ntmps16
  go_wp2_with fail
  refine h.mono ?_
  rintro e w1 ⟨rfl, HP⟩
  have HP := Lib.hid HP
  go_wp2_with fail
  go_ret
  exact ⟨rfl, HP.out⟩

set_option maxHeartbeats 800000 in
set_option maxRecDepth 100000 in
theorem rremove_of {v : Option Addr} {i ea : Int} {P : World → Prop} (h : Calls Try.prog 42 #[.pointer v, .int .i64 i, .bool false] W fun e w' => e = .returned (.int .i64 ea) ∧ P w') :
    Calls Try.prog 18 #[.pointer v, .int .i64 i] W fun e w' => e = .returned (.int .i64 ea) ∧ P w' := by
  go_enter Try.func18, Try.ntmps18
  go_wp2_with fail
  refine h.mono ?_
  rintro e w1 ⟨rfl, HP⟩
  have HP := Lib.hid HP
  go_wp2_with fail
  go_ret
  exact ⟨rfl, HP.out⟩

set_option maxHeartbeats 800000 in
set_option maxRecDepth 100000 in
theorem rhas (h : RefAt W r bi c n f) (k : Nat) (hk : k < n) : Calls Try.prog 30 #[.pointer (some ⟨r, 0, none⟩), .int .i64 (k : Nat)] W fun e w' => e = .returned (.bool (f k)) ∧ w' = W := by
  have hv := rvalid h
  have hs := h.slice
  have hc := h.row.cell hk
  have h0 : (0 : Int) ≤ (k : Int) := by omega
  have h1 : (k : Int) < (n : Int) := by omega
  generalize f k = fk at *
  clear h hk
  go_enter Try.func30, Try.ntmps30
  go_wp2_with (go_at_call 46; refine hv.mono ?_; rintro e w' ⟨rfl, rfl⟩)
  go_ret
  exact ⟨rfl, rfl⟩

set_option maxHeartbeats 800000 in
set_option maxRecDepth 100000 in
theorem rhasOut (h : RefAt W r bi c n f) (i : Int) (hi : i < 0 ∨ (n : Int) ≤ i) : Calls Try.prog 30 #[.pointer (some ⟨r, 0, none⟩), .int .i64 i] W fun e w' => e = .returned (.bool false) ∧ w' = W := by
  have hv := rvalid h
  have hs := h.slice
  clear h
  by_cases h0 : i < 0
  · have hd : decide (0 ≤ i) = false := by simp; omega
    clear hi
    go_enter Try.func30, Try.ntmps30
    go_wp2_with (go_at_call 46; refine hv.mono ?_; rintro e w' ⟨rfl, rfl⟩)
    go_ret
    exact ⟨rfl, rfl⟩
  · have hd : decide (0 ≤ i) = true := by simp; omega
    have h00 : 0 ≤ i := by omega
    have h1 : ¬ i < (n : Int) := by omega
    have hd1 : decide (i < (n : Int)) = false := by simp; omega
    clear hi h0
    go_enter Try.func30, Try.ntmps30
    go_wp2_with (go_at_call 46; refine hv.mono ?_; rintro e w' ⟨rfl, rfl⟩)
    go_ret
    exact ⟨rfl, rfl⟩

set_option maxHeartbeats 800000 in
set_option maxRecDepth 100000 in
theorem rhasN (i : Int) (W : World) : Calls Try.prog 30 #[.pointer none, .int .i64 i] W fun e w' => e = .returned (.bool false) ∧ w' = W := by
  have hv := rvalidN W
  go_enter Try.func30, Try.ntmps30
  go_wp2_with (go_at_call 46; refine hv.mono ?_; rintro e w' ⟨rfl, rfl⟩)
  go_ret
  exact ⟨rfl, rfl⟩

set_option maxHeartbeats 800000 in
set_option maxRecDepth 100000 in
theorem rsize (h : RefAt W r bi c n f) : Calls Try.prog 32 #[.pointer (some ⟨r, 0, none⟩)] W fun e w' => e = .returned (.int .i64 (n : Nat)) ∧ w' = W := by
  have hv := rvalid h
  have hs := h.slice
  clear h
  go_enter Try.func32, Try.ntmps32
  go_wp2_with (go_at_call 46; refine hv.mono ?_; rintro e w' ⟨rfl, rfl⟩)
  go_ret
  exact ⟨rfl, rfl⟩

set_option maxHeartbeats 800000 in
set_option maxRecDepth 100000 in
theorem rsizeN (W : World) : Calls Try.prog 32 #[.pointer none] W fun e w' => e = .returned (.int .i64 0) ∧ w' = W := by
  have hv := rvalidN W
  go_enter Try.func32, Try.ntmps32
  go_wp2_with (go_at_call 46; refine hv.mono ?_; rintro e w' ⟨rfl, rfl⟩)
  go_ret
  exact ⟨rfl, rfl⟩
end
end Go.Proofs.Ytejkbanecbjdoaa
