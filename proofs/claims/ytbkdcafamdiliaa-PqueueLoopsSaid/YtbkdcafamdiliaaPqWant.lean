/- What the laws on queues keep beside the queue: a row of integers, strings of one byte. -/
import Derived.Test.YtbkdcafamdiliaaPqChg
import Derived.Test.YtbkdcafamdiliaaPqAbs2
import Derived.Test.YtbkdcafamdiliaaProg
import Derived.OwnWalk
import Derived.Lib.Hide
import Derived.Outline
namespace Go.Proofs.Ytbkdcafamdiliaa
open Go Go.RowKit

/-- n integers in a block of their own. -/
def rowW (n : Nat) (f : Nat → Int) : Array Value := ((List.range n).map fun k => Value.int .i64 (f k)).toArray

def WA (W : World) (b n : Nat) (f : Nat → Int) : Prop := W.heap[b]? = some (.cells (rowW n f) 3 (0, 0))

/-- A function that is turned at one place. -/
def upd (f : Nat → Int) (k : Nat) (v : Int) : Nat → Int := fun i => if i = k then v else f i

theorem rowW_get (n : Nat) (f : Nat → Int) (k : Nat) (h : k < n) : (rowW n f)[k]? = some (Value.int .i64 (f k)) := by simp [rowW, h]

theorem rowW_set (n : Nat) (f : Nat → Int) (k : Nat) (v : Int) : (rowW n f).setIfInBounds k (Value.int .i64 v) = rowW n (upd f k v) := by
  apply Array.ext'
  simp only [rowW, List.setIfInBounds_toArray]
  apply List.ext_getElem?
  intro i
  rw [List.getElem?_set]
  by_cases hi : i < n
  · by_cases h : k = i
    · subst h; simp [hi, upd]
    · simp [h, hi, upd, show ¬ i = k from fun e => h e.symm]
  · by_cases h : k = i
    · subst h; simp [hi]
    · simp [h, hi]

theorem WA.lt {W : World} {b n : Nat} {f : Nat → Int} (h : WA W b n f) : b < W.heap.size := (Array.getElem?_eq_some_iff.1 h).1
theorem WA.cell {W : World} {b n : Nat} {f : Nat → Int} (h : WA W b n f) {k : Nat} (hk : k < n) : W.cell? ⟨b, k, none⟩ = some (.int .i64 (f k)) := by
  have := rowW_get n f k hk
  unfold WA at h
  simp only [World.cell?, h]
  exact this
theorem WA.frozen {W : World} {b n : Nat} {f : Nat → Int} (h : WA W b n f) (k : Nat) : W.frozen? ⟨b, k, none⟩ = false := by
  unfold WA at h
  simp [World.frozen?, h]
theorem WA.set {W : World} {b n : Nat} {f : Nat → Int} (h : WA W b n f) (k : Nat) (v : Int) : WA (W.setCell ⟨b, k, none⟩ (.int .i64 v)) b n (upd f k v) := by
  unfold WA at *
  rw [setCell_eq_setRow W b k _ _ (0, 0) _ h, ← rowW_set]
  exact setRow_heap W b _ _ _ _ h
theorem WA.same {W W' : World} {b n : Nat} {f : Nat → Int} (h : WA W b n f) (hb : W'.heap[b]? = W.heap[b]?) : WA W' b n f := hb.trans h
theorem WA.congr {W : World} {b n : Nat} {f g : Nat → Int} (h : WA W b n f) (hf : ∀ k, k < n → f k = g k) : WA W b n g := by
  unfold WA at *
  rw [h]
  congr 2
  unfold rowW
  congr 1
  apply List.map_congr_left
  intro k hk
  rw [hf k (List.mem_range.1 hk)]

/-- A row that was just made. -/
theorem wa_made {W : World} {b n : Nat} (h : W.ownsRow b 3 1 (.slice (some ⟨b, 0, none⟩) n n) n (madeCells (Value.int .i64 0).cells (n * 1)).toList) : WA W b n (fun _ => 0) := by
  rcases h.2 with ⟨h1, h2⟩ | ⟨g, cap, cur, h1, h2, h3, h4, h5, h6, h7⟩
  · cases h1
  · injection h1 with e1 e2 e3
    injection e1 with e1
    injection e1 with e1
    subst e1; subst e3
    unfold WA
    rw [h3]
    congr 2
    apply Array.ext'
    rw [List.take_of_length_le (by simp; omega)] at h7
    rw [h7]
    apply List.ext_getElem
    · simp [rowW, madeCells]
    · intro i h1 h2
      simp [rowW] at h2
      simp [rowW, madeCells]
      show (#[Value.int .i64 0])[i % 1]! = _
      simp [Nat.mod_one]

theorem infoW : (Try.prog.info? 3).map (fun i => (i.zero, i.size, i.bytes)) = some (some (.int .i64 0), 1, 8) := by kernel_rfl

/-- How many there are that are not negative. -/
def cntW (n : Nat) (f : Nat → Int) : Nat := (List.range n).countP (fun k => decide (0 ≤ f k))

theorem cntW_succ (n : Nat) (f : Nat → Int) : cntW (n + 1) f = cntW n f + if 0 ≤ f n then 1 else 0 := by
  unfold cntW
  rw [List.range_succ, List.countP_append]
  simp [List.countP_cons]
theorem cntW_le (n : Nat) (f : Nat → Int) : cntW n f ≤ n := by
  unfold cntW
  have := List.countP_le_length (p := fun k => decide (0 ≤ f k)) (l := List.range n)
  simpa using this

set_option maxHeartbeats 800000 in
set_option maxRecDepth 100000 in
theorem count_any {W : World} {b n : Nat} {f : Nat → Int} (h : WA W b n f) (hn : n ≤ 1024) :
    Calls Try.prog 70 #[.slice (some ⟨b, 0, none⟩) n n] W fun e w' => e = .returned (.int .i64 (cntW n f : Nat)) ∧ w' = W := by
  have H := Lib.hid h
  clear h
  go_enter Try.func70, Try.ntmps70
  go_wp2
  go_loop [3, 4] (fun s t => ∃ k : Nat, k ≤ n ∧ s = .int .i64 (cntW k f : Nat) ∧ t = .int .i64 k) (fun _ t => n - (intOf t).toNat)
  case atStart => exact ⟨0, by omega, rfl, rfl⟩
  case round =>
    obtain ⟨k, hk, rfl, rfl⟩ := hrel
    have hc := cntW_le k f
    by_cases hlt : k < n
    · have hcell := H.out.cell hlt
      have hs := cntW_succ k f
      by_cases h0 : 0 ≤ f k
      · rw [if_pos h0] at hs
        have HS := Lib.hid hs
        clear hs
        generalize f k = x at *
        go_wp2_with fail
        go_round
        case rel => exact ⟨k + 1, by omega, by rw [HS.out]; go_num, by go_num⟩
        case measure => simp [intOf]; omega
      · have hs : cntW (k + 1) f = cntW k f := by rw [cntW_succ, if_neg h0]; rfl
        have HS := Lib.hid hs
        have hd : decide (0 ≤ f k) = false := decide_eq_false h0
        clear hs
        generalize f k = x at *
        go_wp2_with fail
        go_round
        case rel => exact ⟨k + 1, by omega, by rw [HS.out], by go_num⟩
        case measure => simp [intOf]; omega
    · obtain rfl : k = n := by omega
      go_wp2_with fail
      go_ret
      exact ⟨rfl, rfl⟩

/-- The string of one byte. -/
def ltr (p : Nat) : ByteArray := ⟨#[UInt8.ofNat p]⟩

theorem ltr_inj {p q : Nat} (hp : p ≤ 255) (hq : q ≤ 255) (h : ltr p = ltr q) : p = q := by
  unfold ltr at h
  injection h with h
  have h2 := congrArg (fun a : Array UInt8 => a[0]?) h
  simp only [List.getElem?_toArray, List.getElem?_cons_zero, Option.some.injEq] at h2
  have := congrArg UInt8.toNat h2
  simp at this
  omega

set_option maxHeartbeats 800000 in
set_option maxRecDepth 100000 in
theorem letter_any (p : Nat) (hp : p ≤ 255) (W : World) : Calls Try.prog 73 #[.int .u8 (p : Nat)] W fun e w' => e = .returned (.string (ltr p)) ∧ Below W.heap.size W w' := by
  have hnew := heap_alloc_new W (Obj.cells #[Value.int .u8 (p : Nat)] 5)
  have hconv : (convert 72 9 (.slice (some ⟨W.heap.size, 0, none⟩) 1 1)).run Try.prog (W.alloc (Obj.cells #[Value.int .u8 (p : Nat)] 5)) = .ok (.string (ltr p)) (W.alloc (Obj.cells #[Value.int .u8 (p : Nat)] 5)) :=
    run_convert_bytes_back (P := Try.prog) (W.alloc (Obj.cells #[Value.int .u8 (p : Nat)] 5)) 72 9 5 ⟨W.heap.size, 0, none⟩ 1 [UInt8.ofNat p] Try.underlying72 Try.underlying5 Try.underlying9 (fun j hj => by
      obtain rfl : j = 0 := by simpa using hj
      simp only [World.cell?, Addr.add_lit, hnew]
      show some _ = some _
      simp
      omega)
  clear hnew
  go_enter Try.func73, Try.ntmps73
  go_wp2_with fail
  go_ret
  exact ⟨rfl, (Below.refl _ _).alloc (Nat.le_refl _) _⟩
end Go.Proofs.Ytbkdcafamdiliaa
