/- Rows that are owned: what lies below. The same names as OmMapLaw's: never import both. -/
import Derived.Test.YtpnhklehpilopaaOmStand
import Derived.RangeFuncNested
namespace Go.Proofs.Ytpnhklehpilopaa
open Go Go.RowKit Go.Maps

theorem ownsRow_slice {w : World} {base : Nat} {e : TypeId} {size : Nat} {v : Value} {n : Nat} {xs : List Value} (h : w.ownsRow base e size v n xs) : ∃ p c, v = .slice p n c ∧ n ≤ c ∧ c ≤ 9223372036854775807 := by
  rcases h.2 with ⟨h1, h2⟩ | ⟨g, cap, cur, h1, h2, h3, h4, h5, h6⟩
  · exact ⟨none, 0, by rw [h1, h2], by omega, by omega⟩
  · exact ⟨_, cap, h1, h4, by unfold maxLen at h5; omega⟩

theorem ownsRow_at {w : World} {base : Nat} {e : TypeId} {p : Option Addr} {n c : Nat} {xs : List Value} (h : w.ownsRow base e 1 (.slice p n c) n xs) {j : Nat} {u : Value} (hj : xs[j]? = some u) : ∃ g, p = some ⟨g, 0, none⟩ ∧ base ≤ g ∧ g < w.heap.size ∧ w.cell? ⟨g, j, none⟩ = some u := by
  rcases h.2 with ⟨h1, h2⟩ | ⟨g, cap, cur, h1, h2, h3, h4, h5, h6⟩
  · have := h.1
    rw [h2] at this
    have : xs = [] := List.eq_nil_of_length_eq_zero (by simpa using this)
    subst this
    simp at hj
  · injection h1 with e1 e2 e3
    refine ⟨g, e1, h2, (Array.getElem?_eq_some_iff.1 h3).1, ?_⟩
    have := h.cells (g := g) (by rw [e1]; rfl) j u hj
    rwa [Addr.add_lit, Nat.zero_add] at this

theorem ownsRow_below {w w' : World} {base : Nat} {e : TypeId} {size : Nat} {v : Value} {n : Nat} {xs : List Value} (h : w.ownsRow base e size v n xs) (hb : Below w.heap.size w w') : w'.ownsRow base e size v n xs := by
  refine ⟨h.1, ?_⟩
  rcases h.2 with h1 | ⟨g, cap, cur, h1, h2, h3, h4⟩
  · exact .inl h1
  · exact .inr ⟨g, cap, cur, h1, h2, (hb.block _ (Array.getElem?_eq_some_iff.1 h3).1).trans h3, h4⟩

theorem keepsFrom_below {B : Nat} {W W' : World} (h : Below W.heap.size W W') : KeepsFrom B W W' :=
  KeepsFrom.of_grownBy (row := none) ⟨h.os, h.tape, h.output, h.size, fun k hk _ => h.block k hk⟩ (fun j e => by cases e)

theorem not_prefix {α : Type} {pre l : List α} {x : α} (h : l[pre.length]? ≠ some x) : ¬ (pre ++ [x]) <+: l := fun ⟨t, e⟩ => h (by rw [← e]; simp)

theorem boxed_at {W : World} {n : Nat} (h : W.heap.size = n) (t : TypeId) (v : Value) : Boxed (W.alloc (.cells #[v] t)) n t v := by
  subst h
  exact Boxed.new W t v

/-- A box beside the one that is written, and the row that is appended to. -/
theorem boxed_beside {W w1 : World} {B B' : Nat} {t e : TypeId} {size : Nat} {v u : Value} {k n₀ : Nat} {xs : List Value} {tmp : Obj} (hu : Boxed W B' t u) (hte : t ≠ e) (hrow : W.ownsRow n₀ e size v k xs) (hgrow : (W.alloc tmp).grownBy w1 v.ownBlock) (hne : B' ≠ B) (v' : Value) :
    Boxed (w1.setCell ⟨B, 0, none⟩ v') B' t u :=
  (Below.heap_setCell _ _ _ _ hne).trans ((hu.alloc tmp).kept hgrow (hu.not_row hte hrow))

theorem ownsRow_mono {w : World} {b b' : Nat} {e : TypeId} {size : Nat} {v : Value} {n : Nat} {xs : List Value} (h : w.ownsRow b' e size v n xs) (hb : b ≤ b') : w.ownsRow b e size v n xs := by
  refine ⟨h.1, ?_⟩
  rcases h.2 with h1 | ⟨g, cap, cur, h1, h2, h3⟩
  · exact .inl h1
  · exact .inr ⟨g, cap, cur, h1, Nat.le_trans hb h2, h3⟩

/-- A world that differs from an earlier one in one block at most, and in new ones: that abides what a loop over a function does by itself. -/
theorem ownFrom_grown {β : Type} {B S : Nat} {Y : World} (hB : Y.heap.size ≤ B) : OwnFrom B (fun (_ : β) W => Y.grownBy W (some S)) := fun _ W W' row hs hg hr =>
  ⟨hg.os.trans hs.os, hg.tape.trans hs.tape, hg.output.trans hs.output, Nat.le_trans hs.size hg.size, fun k hk hne => by
    refine (hg.block k (Nat.lt_of_lt_of_le hk hs.size) (fun e => ?_)).trans (hs.block k hk hne)
    have := (hr k e.symm).1
    omega⟩

/-- An append to the slice in a box, the row new since Y: all that lay in Y but the box stays. -/
theorem grown_beside {Y W w1 : World} {B : Nat} {e : TypeId} {size : Nat} {v : Value} {k : Nat} {xs : List Value} {tmp : Obj} (hY : Y.grownBy W (some B)) (hrow : W.ownsRow Y.heap.size e size v k xs) (hgrow : (W.alloc tmp).grownBy w1 v.ownBlock) (v' : Value) :
    Y.grownBy (w1.setCell ⟨B, 0, none⟩ v') (some B) := by
  have hs := grownBy_setCell' w1 B v'
  have hsz : W.heap.size ≤ (W.alloc tmp).heap.size := by simp
  refine ⟨hs.os.trans (hgrow.os.trans hY.os), hs.tape.trans (hgrow.tape.trans hY.tape), hs.output.trans (hgrow.output.trans hY.output), Nat.le_trans hY.size (Nat.le_trans hsz (Nat.le_trans hgrow.size hs.size)), fun j hj hne => ?_⟩
  have h1 : j < W.heap.size := Nat.lt_of_lt_of_le hj hY.size
  have h2 : j < (W.alloc tmp).heap.size := Nat.lt_of_lt_of_le h1 hsz
  refine (hs.block j (Nat.lt_of_lt_of_le h2 hgrow.size) hne).trans ((hgrow.block j h2 ?_).trans ((Below.heap_alloc _ _ _ h1).trans (hY.block j hj hne)))
  rcases hrow.2 with ⟨rfl, _⟩ | ⟨g, cap, cur, rfl, hb, _⟩
  · simp [Value.ownBlock]
  · simp only [Value.ownBlock]
    intro e'
    injection e' with e'
    omega

theorem take_keys (zs : List (Int × Int)) {m : Nat} (hm : m ≤ zs.length) : (List.range m).map (fun x => Value.int .i64 (pickI zs x).1) = ((zs.map (·.1)).take m).map fun x => Value.int .i64 x := by
  rw [List.map_take, ← pickI_map, ← List.map_take, List.take_range, Nat.min_eq_left hm]

theorem Reads.take {W : World} {p : Option Addr} {zs : List Int} (h : Reads W p zs) (m : Nat) : Reads W p (zs.take m) := fun j x hx => h j x (by
  rw [List.getElem?_take] at hx
  split at hx
  · exact hx
  · cases hx)
end Go.Proofs.Ytpnhklehpilopaa
