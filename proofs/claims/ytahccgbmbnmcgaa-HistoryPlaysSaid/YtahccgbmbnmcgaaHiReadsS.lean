/- Elements side by side, read and compared. -/
import Derived.Test.YtahccgbmbnmcgaaHiGat
import Derived.Test.YtahccgbmbnmcgaaShelf
namespace Go.Proofs.Ytahccgbmbnmcgaa
open Go Go.RowKit

/-- At p there lie these, one behind the other. -/
def RdS (W : World) (p : Option Addr) (zs : List ByteArray) : Prop := ∀ j x, zs[j]? = some x → ∃ g o, p = some ⟨g, o, none⟩ ∧ W.cell? ⟨g, o + j, none⟩ = some (Value.string x)

theorem RdS.below {W W' : World} {p : Option Addr} {zs : List ByteArray} (h : RdS W p zs) (hb : Below W.heap.size W W') : RdS W' p zs := fun j x hx => by
  obtain ⟨g, o, hp, hc⟩ := h j x hx
  exact ⟨g, o, hp, (hb.cell (World.block_lt_of_cell? _ _ hc)).trans hc⟩

theorem RdS.kept {W W' : World} {p : Option Addr} {zs : List ByteArray} (h : RdS W p zs) (hk : ∀ a, p = some a → a.block < W.heap.size → W'.heap[a.block]? = W.heap[a.block]?) : RdS W' p zs := fun j x hx => by
  obtain ⟨g, o, hp, hc⟩ := h j x hx
  refine ⟨g, o, hp, ?_⟩
  have hb : g < W.heap.size := World.block_lt_of_cell? W ⟨g, o + j, none⟩ hc
  have := hk _ hp hb
  rw [← hc]
  simp only [World.cell?, this]

theorem RdS.nil (W : World) (p : Option Addr) : RdS W p [] := fun j x h => by simp at h

theorem rdS_of_row {W : World} {base : Nat} {p : Option Addr} {n c : Nat} {zs : List ByteArray} (h : W.ownsRow base 9 1 (.slice p n c) n (zs.map (Value.string))) : RdS W p zs := fun j x hx => by
  rcases h.2 with ⟨h1, h2⟩ | ⟨g, cap, cur, h1, h2, h3, h4, h5, h6⟩
  · have := h.1
    rw [h2] at this
    have : zs = [] := by simpa using this
    subst this
    simp at hx
  · injection h1 with e1 e2 e3
    refine ⟨g, 0, e1, ?_⟩
    have := h.cells (g := g) (by rw [e1]; rfl) j (Value.string x) (by rw [List.getElem?_map, hx]; rfl)
    rwa [Addr.add_lit] at this

theorem RdS.whole {W : World} {p : Option Addr} {z : ByteArray} {zs : List ByteArray} (h : RdS W p (z :: zs)) : ∃ g o, p = some ⟨g, o, none⟩ ∧ ∀ j, j < (z :: zs).length → W.cell? ⟨g, o + j, none⟩ = some (Value.string ((z :: zs).getD j (⟨#[]⟩ : ByteArray))) := by
  obtain ⟨g, o, rfl, -⟩ := h 0 z rfl
  refine ⟨g, o, rfl, fun j hj => ?_⟩
  obtain ⟨g', o', e, hc⟩ := h j _ (List.getElem?_eq_getElem hj)
  injection e with e
  injection e with e1 e2
  subst e1; subst e2
  rw [hc, List.getD_eq_getElem?_getD, List.getElem?_eq_getElem hj]
  rfl

/-- Two rows compared. -/
theorem RdS.equal {W : World} {p q : Option Addr} {n c m d : Nat} {xs ys : List ByteArray} (hx : RdS W p xs) (hy : RdS W q ys) (hxl : xs.length = n) (hyl : ys.length = m) (hn : n ≤ 1000000) (hm : m ≤ 1000000) :
    Calls Try.prog 42 #[.slice p n c, .slice q m d] W fun e w' => e = .returned (.bool (decide (xs = ys))) ∧ ∃ k, w' = W.drewN k := by
  by_cases hnm : n = m
  · subst hnm
    cases xs with
    | nil =>
      obtain rfl : n = 0 := by simpa using hxl.symm
      obtain rfl : ys = [] := List.eq_nil_of_length_eq_zero hyl
      exact (Try.slices_Equal_string_empty p q c 0 d W (by omega)).mono fun e w' ⟨he, hw⟩ => ⟨he, 0, hw⟩
    | cons x xs =>
      cases ys with
      | nil => simp at hyl; subst hyl; simp at hxl
      | cons y ys =>
        obtain ⟨g, o, rfl, h1⟩ := hx.whole
        obtain ⟨g', o', rfl, h2⟩ := hy.whole
        refine (Try.slices_Equal_string g o n c g' o' n d (x :: xs) (y :: ys) W (by omega) (by omega) (by omega) (by omega) h1 h2).mono fun e w' ⟨he, hw⟩ => ⟨?_, hw⟩
        rw [List.take_of_length_le (by omega), List.take_of_length_le (by omega)] at he
        rw [he]
        skip
  · refine (Try.slices_Equal_string_lens p q n c m d W hnm).mono fun e w' ⟨he, hw⟩ => ⟨?_, 0, hw⟩
    rw [he, decide_eq_false]
    rintro rfl
    exact hnm (hxl.symm.trans hyl)

/-- Two rows with the same elements compared. -/
theorem RdS.same {W : World} {p q : Option Addr} {n c m d : Nat} {xs : List ByteArray} (hx : RdS W p xs) (hy : RdS W q xs) (hxl : xs.length = n) (hyl : xs.length = m) (hn : n ≤ 1000000) (hm : m ≤ 1000000) :
    Calls Try.prog 42 #[.slice p n c, .slice q m d] W fun e w' => e = .returned (.bool true) ∧ ∃ k, w' = W.drewN k := by
  have := hx.equal (c := c) (d := d) hy hxl hyl hn hm
  rwa [decide_eq_true rfl] at this

theorem RdS.drop {W : World} {g o : Nat} {zs : List ByteArray} (h : RdS W (some ⟨g, o, none⟩) zs) (r o' : Nat) (ho : o' = o + r) : RdS W (some ⟨g, o', none⟩) (zs.drop r) := fun j x hx => by
  rw [List.getElem?_drop] at hx
  obtain ⟨g', o'', e, hc⟩ := h _ _ hx
  injection e with e
  injection e with e1 e2
  subst e1; subst e2; subst ho
  exact ⟨g, _, rfl, by rw [Nat.add_assoc]; exact hc⟩

theorem RdS.take {W : World} {p : Option Addr} {zs : List ByteArray} (h : RdS W p zs) (k : Nat) : RdS W p (zs.take k) := fun j x hx => by
  refine h j x ?_
  rw [List.getElem?_take] at hx
  split at hx
  · exact hx
  · cases hx

theorem RdS.drewN {W : World} {p : Option Addr} {zs : List ByteArray} (h : RdS W p zs) (m : Nat) : RdS (W.drewN m) p zs := h
end Go.Proofs.Ytahccgbmbnmcgaa
