/- Slices in boxes that grow while a loop over a function goes on. Of no program. -/
import Derived.Test.YtahccgbmbnmcgaaPqRange
import Derived.RangeFuncBox
import Derived.RangeFuncNested
import Derived.Maps.AppendAt
namespace Go.Proofs.Ytahccgbmbnmcgaa
open Go Go.RowKit

theorem ownsRow_slice4 {w : World} {base : Nat} {e : TypeId} {size : Nat} {v : Value} {n : Nat} {xs : List Value} (h : w.ownsRow base e size v n xs) : ∃ p c, v = .slice p n c ∧ n ≤ c ∧ c ≤ 9223372036854775807 := by
  rcases h.2 with ⟨h1, h2⟩ | ⟨g, cap, cur, h1, h2, h3, h4, h5, h6⟩
  · exact ⟨none, 0, by rw [h1, h2], by omega, by omega⟩
  · exact ⟨_, cap, h1, h4, by unfold maxLen at h5; omega⟩

theorem ownsRow_at4 {w : World} {base : Nat} {e : TypeId} {p : Option Addr} {n c : Nat} {xs : List Value} (h : w.ownsRow base e 1 (.slice p n c) n xs) {j : Nat} {u : Value} (hj : xs[j]? = some u) : ∃ g, p = some ⟨g, 0, none⟩ ∧ base ≤ g ∧ g < w.heap.size ∧ w.cell? ⟨g, j, none⟩ = some u := by
  rcases h.2 with ⟨h1, h2⟩ | ⟨g, cap, cur, h1, h2, h3, h4, h5, h6⟩
  · have := h.1
    rw [h2] at this
    have : xs = [] := List.eq_nil_of_length_eq_zero (by simpa using this)
    subst this
    simp at hj
  · injection h1 with e1 e2 e3
    refine ⟨g, e1, h2, (Array.getElem?_eq_some_iff.1 h3).1, ?_⟩
    have := h.cells (g := g) (by rw [e1]; rfl) j u hj
    rwa [Addr.add_lit, Nat.zero_add] at this

theorem boxed_at4 {W : World} {n : Nat} (h : W.heap.size = n) (t : TypeId) (v : Value) : Boxed (W.alloc (.cells #[v] t)) n t v := by
  subst h
  exact Boxed.new W t v

theorem size_setCell4 (w : World) (a : Addr) (v : Value) : (w.setCell a v).heap.size = w.heap.size := by simp [World.setCell]

theorem cell_one_set (w1 : World) (a : Addr) (v x : Value) (t : TypeId) : ∀ j u, [x][j]? = some u → ((w1.setCell a v).alloc (.cells #[x] t)).cell? ((⟨w1.heap.size, 0, none⟩ : Addr).add j) = some u := by
  have := cell_one_new (w1.setCell a v) x t
  rwa [size_setCell4] at this

/-- A row that lies from hi on stays, if its block stays. -/
theorem ownsRow_step {W W' : World} {base lo hi : Nat} {e : TypeId} {size : Nat} {v : Value} {n : Nat} {xs : List Value} (h : W.ownsRow base e size v n xs) (hb : hi ≤ base) (hs : OwnStep lo hi W W') : W'.ownsRow base e size v n xs := by
  refine ⟨h.1, ?_⟩
  rcases h.2 with h1 | ⟨g, cap, cur, h1, h2, h3, h4⟩
  · exact .inl h1
  · exact .inr ⟨g, cap, cur, h1, h2, (hs.block _ (Array.getElem?_eq_some_iff.1 h3).1 (.inr (by omega))).trans h3, h4⟩

theorem boxed_step {W W' : World} {lo hi B : Nat} {t : TypeId} {v : Value} (h : Boxed W B t v) (hb : B < lo) (hs : OwnStep lo hi W W') : Boxed W' B t v := (hs.block _ h.lt (.inl hb)).trans h

/-- 'out = append(out, ..)', out in a box below hi, its row from hi on. -/
structure Grew (W w1 : World) (B hi : Nat) (t e : TypeId) (v v' : Value) (m : Nat) (ys : List Value) : Prop where
  box1 : Boxed w1 B t v
  box : Boxed (w1.setCell ⟨B, 0, none⟩ v') B t v'
  row : (w1.setCell ⟨B, 0, none⟩ v').ownsRow hi e 1 v' m ys
  os : (w1.setCell ⟨B, 0, none⟩ v').os = W.os
  tape : (w1.setCell ⟨B, 0, none⟩ v').tape = W.tape
  output : (w1.setCell ⟨B, 0, none⟩ v').output = W.output
  size : W.heap.size ≤ (w1.setCell ⟨B, 0, none⟩ v').heap.size
  block : ∀ k, k < W.heap.size → k ≠ B → some k ≠ v.ownBlock → (w1.setCell ⟨B, 0, none⟩ v').heap[k]? = W.heap[k]?
  high : ∀ k, v.ownBlock = some k → hi ≤ k

theorem grew {W w1 : World} {B hi : Nat} {t e : TypeId} {v v' : Value} {k m : Nat} {xs ys : List Value} {tmp : Obj} (hv : Boxed W B t v) (hte : t ≠ e) (hrow : W.ownsRow hi e 1 v k xs)
    (hown' : w1.ownsRow hi e 1 v' m ys) (hgrow : (W.alloc tmp).grownBy w1 v.ownBlock) : Grew W w1 B hi t e v v' m ys := by
  have hv1 : Boxed w1 B t v := (hv.alloc tmp).kept hgrow (hv.not_row hte hrow)
  have hs := grownBy_setCell' w1 B v'
  have hsz : W.heap.size ≤ (W.alloc tmp).heap.size := by simp
  refine ⟨hv1, hv1.set v', hown'.kept hs (.inr (hv1.not_row hte hown').symm), hs.os.trans hgrow.os, hs.tape.trans hgrow.tape, hs.output.trans hgrow.output, Nat.le_trans hsz (Nat.le_trans hgrow.size hs.size), fun j hj hne hnr => ?_, fun j hj => ?_⟩
  · have h2 : j < (W.alloc tmp).heap.size := Nat.lt_of_lt_of_le hj hsz
    exact (hs.block j (Nat.lt_of_lt_of_le h2 hgrow.size) (fun e => hne (by cases e; rfl))).trans ((hgrow.block j h2 hnr).trans (Below.heap_alloc _ _ _ hj))
  · rcases hrow.2 with ⟨rfl, _⟩ | ⟨g, cap, cur, rfl, hb, _⟩
    · simp [Value.ownBlock] at hj
    · simp only [Value.ownBlock] at hj
      cases hj
      exact hb

section
variable {W w1 : World} {B hi : Nat} {t e : TypeId} {v v' : Value} {m : Nat} {ys : List Value}

theorem Grew.keeps (h : Grew W w1 B hi t e v v' m ys) {lo : Nat} (hB : B < lo) : KeepsIn lo hi W (w1.setCell ⟨B, 0, none⟩ v') :=
  ⟨h.os, h.size, fun k h1 h2 h3 => h.block k h3 (by omega) (fun e => by have := h.high k e.symm; omega)⟩

theorem Grew.lowBlock (h : Grew W w1 B hi t e v v' m ys) {k : Nat} (hk : k < hi) (hk2 : k < W.heap.size) (hne : k ≠ B) : (w1.setCell ⟨B, 0, none⟩ v').heap[k]? = W.heap[k]? :=
  h.block k hk2 hne (fun e => by have := h.high k e.symm; omega)

theorem Grew.boxOther (h : Grew W w1 B hi t e v v' m ys) {B' : Nat} {t' : TypeId} {u : Value} (hu : Boxed W B' t' u) (hne : B' ≠ B) (hhi : B' < hi) : Boxed (w1.setCell ⟨B, 0, none⟩ v') B' t' u :=
  (h.lowBlock hhi hu.lt hne).trans hu

/-- Another slice's row, of other elements, stays. -/
theorem Grew.rowOther (h : Grew W w1 B hi t e v v' m ys) {k : Nat} {xs : List Value} (hrow : W.ownsRow hi e 1 v k xs) (hB : B < hi) {e' : TypeId} {u : Value} {n' : Nat} {zs : List Value} (hr : W.ownsRow hi e' 1 u n' zs) (hne : e' ≠ e) : (w1.setCell ⟨B, 0, none⟩ v').ownsRow hi e' 1 u n' zs := by
  refine ⟨hr.1, ?_⟩
  rcases hr.2 with h1 | ⟨g, cap, cur, h1, h2, h3, h4⟩
  · exact .inl h1
  · refine .inr ⟨g, cap, cur, h1, h2, (h.block g (Array.getElem?_eq_some_iff.1 h3).1 (by omega) (fun e1 => ?_)).trans h3, h4⟩
    rcases hrow.2 with ⟨rfl, _⟩ | ⟨g2, cap2, cur2, rfl, _, hg2, _⟩
    · simp [Value.ownBlock] at e1
    · simp only [Value.ownBlock] at e1
      cases e1
      rw [h3] at hg2
      simp at hg2
      exact hne hg2.2
end
end Go.Proofs.Ytahccgbmbnmcgaa
