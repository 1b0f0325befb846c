/- Slices of byte strings that came in; an own row of bytes to which a byte string is appended. -/
import Derived.Test.YtjadlianlnaomaaDoorSlices
import Derived.Laws.AppendOwnNone
import Derived.Deep.Matrix
namespace Go.Proofs.YtjadlianlnaomaaDoor
open Go Go.RowKit

/-- A slice of byte strings. -/
structure Mat (w : World) (p : Option Addr) (len cap : Nat) (A : Nat → Option Addr) (Ls C : Nat → Nat) (X : Nat → List Int) : Prop where
  le : len ≤ cap
  lim : cap ≤ maxLen
  row : ∀ r, r < len → ∃ b o, p = some ⟨b, o, none⟩ ∧ w.cell? ⟨b, o + r, none⟩ = some (.slice (A r) (Ls r) (C r))
  sl : ∀ r, r < len → Sl w (A r) (Ls r) (C r) (X r)

theorem Mat.below {w w' : World} {p : Option Addr} {len cap : Nat} {A : Nat → Option Addr} {Ls C : Nat → Nat} {X : Nat → List Int} (h : Mat w p len cap A Ls C X) (hb : Below w.heap.size w w') : Mat w' p len cap A Ls C X :=
  ⟨h.le, h.lim, fun r hr => by
    obtain ⟨b, o, hp, hc⟩ := h.row r hr
    exact ⟨b, o, hp, (hb.cell (p := ⟨b, o + r, none⟩) (World.block_lt_of_cell? w _ hc)).trans hc⟩, fun r hr => (h.sl r hr).below hb⟩

/-- An argument of type [][]byte is such a slice. -/
theorem open_byte_rows {H : Type} {enc : TypeId × Value → H} {P : Program} {w : World} {base : Nat} {held : Bool} {t e q : TypeId} {v : Value} {d : DataW H} {ps : List MemPlace} (ht : P.underlying t = some (.slice e)) (he : P.underlying e = some (.slice q)) (hq : P.underlying q = some (.int .u8))
    (ce : P.cellsOf e = 1) (cq : P.cellsOf q = 1) {p : Option Addr} {len cap : Nat} (hv : v = .slice p len cap) (h : ∃ fuel, DataW.trod enc P w base (fun _ => true) held fuel t v.cells.toList = some (d, ps)) :
    ∃ (A : Nat → Option Addr) (L C : Nat → Nat) (X : Nat → List Int), Mat w p len cap A L C X := by
  subst hv
  obtain ⟨fuel, h⟩ := h
  rcases Go.Deep.open_int_rows ht he hq ce cq h with ⟨hcs, _⟩ | ⟨a, len', cap', A, L, C, Z, hcs, _, hl, hm, _, hr⟩
  · simp [Value.cells] at hcs
    obtain ⟨rfl, rfl, rfl⟩ := hcs
    exact ⟨fun _ => none, fun _ => 0, fun _ => 0, fun _ => [], Nat.le_refl _, Nat.zero_le _, (fun r hr => by omega), fun r hr => by omega⟩
  · simp [Value.cells] at hcs
    obtain ⟨rfl, rfl, rfl⟩ := hcs
    refine ⟨A, L, C, fun r => (Z r).take (L r), hl, hm, fun r hrl => ?_, fun r hrl => ?_⟩
    · obtain ⟨hc, _⟩ := hr r (by omega)
      obtain ⟨b, o, spot⟩ := a
      have hspot : spot = none := by simpa [Addr.add] using World.cell?_spot (hr 0 (by omega)).1
      subst hspot
      exact ⟨b, o, rfl, by rw [← Go.WideShapes.add_plain]; exact hc⟩
    · obtain ⟨_, h1, _, h3, h4, h5, h6⟩ := hr r (by omega)
      refine ⟨by simp; omega, h1, ?_, fun hn => ?_, fun y hy => ?_⟩
      · cases hA : A r with
        | none => intro hpos; have := h5 hA; omega
        | some a' =>
          refine Lib.BytesIn.of_cells (fun i hi => ?_)
          rw [(h6 a' hA).2 i (by omega)]; simp [List.getD, hi]
      · have := h5 hn; exact ⟨by omega, this⟩
      · have := bounds_u8 (h4 y (List.mem_of_mem_take hy))
        omega

theorem owns_below {w w' : World} {B : Nat} {e : TypeId} {size : Nat} {v : Value} {n : Nat} {xs : List Value} (h : w.ownsRow B e size v n xs) (hb : Below w.heap.size w w') : w'.ownsRow B e size v n xs := by
  refine h.kept (row := none) ⟨hb.os, hb.tape, hb.output, hb.size, fun k hk _ => hb.block k hk⟩ ?_
  cases v.ownBlock with
  | none => exact .inl rfl
  | some r => exact .inr (fun h => by cases h)

/-- A byte string is appended to an own row. -/
theorem wpList_append_sl {P : Program} {w : World} {ops : Array Oper} {rest : List Oper} {o : Oper} {a : Act} {Q : Exit → Act → World → Prop} (hgd : o.guard = none) (s x : Operand) (t : TypeId)
    (ho : o.op = .call { callee := .builtin .append, args := #[s, x], argTypes := #[t, t] })
    (base : Nat) (e : TypeId) (i : TypeInfo) (ht : P.underlying t = some (.slice e)) (hi : P.info? e = some i) (hz : i.zero = some (.int .u8 0)) (hsize : i.size = 1) (hby : i.bytes = 1)
    (v : Value) (n : Nat) (xs : List Int) (hs : a.eval s = v) (hown : w.ownsRow base e 1 v n (xs.map (Value.int .u8)))
    (p : Option Addr) (m c : Nat) (l : List Int) (hx : a.eval x = .slice p m c) (hS : Sl w p m c l)
    (h63 : n + m ≤ 1000000) (hbase : base ≤ w.heap.size)
    (h : ∀ v' w', w'.ownsRow base e 1 v' (n + m) ((xs ++ l).map (Value.int .u8)) → (∀ B a0, Below B a0 w → B ≤ base → Below B a0 w') → wpList P ops Q rest (a.put o.dst v') w') : wpList P ops Q (o :: rest) a w := by
  cases p with
  | none =>
    obtain ⟨rfl, rfl⟩ := hS.nil rfl
    have hl0 : l = [] := List.eq_nil_of_length_eq_zero hS.len
    subst hl0
    refine wpList_append_own_none hgd s x t ho base e i 1 ht hi v n _ hs hown hx (h v w ?_ fun _ _ hb _ => hb)
    rw [List.append_nil, Nat.add_zero]
    exact hown
  | some ad =>
    refine wpList_append_own w hgd s x t ho base e i (.int .u8 0) 1 1 ht hi hz hsize hby rfl (by decide) v n _ hs hown ad m c (l.map (Value.int .u8)) hx (by rw [List.length_map, hS.len, Nat.mul_one]) (cells_of_in hS.len hS.bytes ad rfl) (ints_oneCell _ _) (by unfold maxLen; omega) (by omega) hbase ?_
    intro v' w' h2 h3 _
    refine h v' w' (by rw [List.map_append]; exact h2) fun B a0 hb hB => hb.grown h3 (by omega) fun r hr => ?_
    have := (hown.lt r hr).1
    omega
end Go.Proofs.YtjadlianlnaomaaDoor
