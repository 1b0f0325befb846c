/- CodecRoundTrip: what holds between the rounds. -/
import Derived.Test.YtcafenmkcjlhgaaDoorRound0
namespace Go.Proofs.YtcafenmkcjlhgaaDoor
open Go Go.RowKit

theorem Append_d {p : Option Addr} {len cap : Nat} {xs : List Int} (n : Int) (m : Nat) (w : World) (h : Laid w) (hw : isW m = true) (hf : fitsI n m = true) (hS : Sl w p len cap xs) (hl : len ≤ 1000000) :
    Calls Tryd.prog 10 #[.slice p len cap, .int .u64 n, .int .i64 m] w fun e w' =>
      e = .returned (.tuple #[.slice (some ⟨w.heap.size, 0, none⟩) (len + m) (len + m), .int .i64 0]) ∧ Sl w' (some ⟨w.heap.size, 0, none⟩) (len + m) (len + m) (xs ++ le n m) ∧ Below w.heap.size w w' ∧ w.heap.size < w'.heap.size :=
  (Append_ok p len cap xs n m w h.wt hw hf hl hS.len hS.bytes hS.nil).mono fun e w' ⟨he, hown, hb⟩ => by
    obtain ⟨p', n', c', hv, hs⟩ := sl_owns hown (fun x hx => by
      rcases List.mem_append.1 hx with hx | hx
      · exact hS.rng x hx
      · exact le_rng n m x hx)
    cases hv
    exact ⟨he, hs, hb, (hown.lt _ rfl).2⟩

theorem Sl.kept {w w' : World} {p : Option Addr} {n c : Nat} {l : List Int} {row : Option Nat} (h : Sl w p n c l) (hg : w.grownBy w' row) (hne : ∀ a, p = some a → some a.block ≠ row) : Sl w' p n c l := by
  refine ⟨h.len, h.cap, ?_, h.nil, h.rng⟩
  intro hn
  obtain ⟨b, o, hp, hc⟩ := h.bytes hn
  exact ⟨b, o, hp, fun i hi => hg.cell (hc i hi) (show some b ≠ row from hne ⟨b, o, none⟩ hp)⟩

/-- Between the rounds: out, offsets and used. -/
structure RW (w1 wr : World) (B X zs : List Int) (os ws : List Nat) (k : Nat) (vo vu : Value) (p : Option Addr) (n c : Nat) : Prop where
  below : Below w1.heap.size w1 wr
  sl : Sl wr p n c X
  rt : RT B X zs os ws k
  o : wr.ownsRow w1.heap.size 3 1 vo k (os.map fun o => Value.int .i64 (o : Nat))
  u : wr.ownsRow w1.heap.size 3 1 vu k (ws.map fun o => Value.int .i64 (o : Nat))
  apart : ∀ r, vo.ownBlock = some r → vu.ownBlock ≠ some r
  far : ∀ a, p = some a → vo.ownBlock ≠ some a.block ∧ vu.ownBlock ≠ some a.block

theorem RW.zero {w1 : World} {B zs : List Int} {p : Option Addr} {n c : Nat} (h : Sl w1 p n c B) : RW w1 w1 B B zs [] [] 0 (.slice none 0 0) (.slice none 0 0) p n c :=
  ⟨Below.refl _ _, h, RT.zero _ _, World.ownsRow_nil _ _ _ _, World.ownsRow_nil _ _ _ _, fun r hr => (by cases hr), fun a _ => ⟨fun h => (by cases h), fun h => (by cases h)⟩⟩

theorem RW.row_u {w1 wr : World} {B X zs : List Int} {os ws : List Nat} {k : Nat} {vo vu : Value} {p : Option Addr} {n c : Nat} (HR : RW w1 wr B X zs os ws k vo vu p n c)
    {w3 wa : World} {o1 : Obj} (hb : Below wr.heap.size wr w3) (hgA : (w3.alloc o1).grownBy wa vo.ownBlock) : wa.ownsRow w1.heap.size 3 1 vu k (ws.map fun o => Value.int .i64 (o : Nat)) := by
  have h1 : w3.ownsRow w1.heap.size 3 1 vu k (ws.map fun o => Value.int .i64 (o : Nat)) := HR.u.kept ⟨hb.os, hb.tape, hb.output, hb.size, fun k hk _ => hb.block k hk⟩ (row := none) (by cases hv : vu.ownBlock <;> simp)
  refine (h1.alloc _).kept hgA ?_
  cases hv : vu.ownBlock with
  | none => exact .inl rfl
  | some r => exact .inr (fun h => HR.apart r h.symm hv)

theorem RW.row_o {w1 wr : World} {B X zs : List Int} {os ws : List Nat} {k : Nat} {vo vu : Value} {p : Option Addr} {n c : Nat} (HR : RW w1 wr B X zs os ws k vo vu p n c)
    {w3 : World} (hb : Below wr.heap.size wr w3) : w3.ownsRow w1.heap.size 3 1 vo k (os.map fun o => Value.int .i64 (o : Nat)) :=
  HR.o.kept ⟨hb.os, hb.tape, hb.output, hb.size, fun k hk _ => hb.block k hk⟩ (row := none) (by cases hv : vo.ownBlock <;> simp)

theorem RW.step {w1 wr : World} {B X zs : List Int} {os ws : List Nat} {k : Nat} {vo vu : Value} {p : Option Addr} {n c : Nat} (HR : RW w1 wr B X zs os ws k vo vu p n c) {m : Nat}
    (hw : isW (m : Nat) = true) (hf : fitsI (zs.getD k 0) m = true) (h0 : 0 ≤ zs.getD k 0) {W2 w3 wa wb : World} {o1 o2 : Obj} {v1 v2 : Value} (hb2 : Below wr.heap.size wr W2) (hb3 : Below W2.heap.size W2 w3) (h23 : W2.heap.size < w3.heap.size)
    (hs3 : Sl w3 (some ⟨W2.heap.size, 0, none⟩) (n + m) (n + m) (X ++ le (zs.getD k 0) m))
    (hoA : wa.ownsRow w1.heap.size 3 1 v1 (k + 1) ((os.map fun o => Value.int .i64 (o : Nat)) ++ [.int .i64 (n : Nat)])) (hgA : (w3.alloc o1).grownBy wa vo.ownBlock) (hbA : ∀ r, v1.ownBlock = some r → vo.ownBlock = some r ∨ (w3.alloc o1).heap.size ≤ r)
    (hoB : wb.ownsRow w1.heap.size 3 1 v2 (k + 1) ((ws.map fun o => Value.int .i64 (o : Nat)) ++ [.int .i64 (m : Nat)])) (hgB : (wa.alloc o2).grownBy wb vu.ownBlock) (hbB : ∀ r, v2.ownBlock = some r → vu.ownBlock = some r ∨ (wa.alloc o2).heap.size ≤ r) :
    RW w1 wb B (X ++ le (zs.getD k 0) m) zs (os ++ [n]) (ws ++ [m]) (k + 1) v1 v2 (some ⟨W2.heap.size, 0, none⟩) (n + m) (n + m) := by
  have s1 := HR.below.size
  have s2 := hb2.size
  have s3 := hb3.size
  have sA := hgA.size
  have sB := hgB.size
  have eA : (w3.alloc o1).heap.size = w3.heap.size + 1 := by simp
  have eB : (wa.alloc o2).heap.size = wa.heap.size + 1 := by simp
  have lo := HR.o.lt
  have lu := HR.u.lt
  have lA := hoA.lt
  have lB := hoB.lt
  have hX : X.length = n := HR.sl.len
  have hbel3 : Below w1.heap.size w1 w3 := (HR.below.trans (hb2.mono s1)).trans (hb3.mono (by omega))
  have hbelA : Below w1.heap.size w1 wa := (hbel3.alloc (by omega) _).grown hgA (by omega) (fun r hr => (lo r hr).1)
  have hbelB : Below w1.heap.size w1 wb := (hbelA.alloc (by omega) _).grown hgB (by omega) (fun r hr => (lu r hr).1)
  have hslA : Sl wa (some ⟨W2.heap.size, 0, none⟩) (n + m) (n + m) (X ++ le (zs.getD k 0) m) :=
    (hs3.below ((Below.refl _ _).alloc (Nat.le_refl _) o1)).kept hgA (fun a ha h => by cases ha; have := (lo _ h.symm).2; simp only at this; omega)
  have hslB : Sl wb (some ⟨W2.heap.size, 0, none⟩) (n + m) (n + m) (X ++ le (zs.getD k 0) m) :=
    (hslA.below ((Below.refl _ _).alloc (Nat.le_refl _) o2)).kept hgB (fun a ha h => by cases ha; have := (lu _ h.symm).2; simp only at this; omega)
  refine ⟨hbelB, hslB, ?_, ?_, ?_, ?_, ?_⟩
  · have := HR.rt.step hw hf h0
    rwa [hX] at this
  · have h1 : wb.ownsRow w1.heap.size 3 1 v1 (k + 1) ((os.map fun o => Value.int .i64 (o : Nat)) ++ [.int .i64 (n : Nat)]) := by
      refine (hoA.alloc o2).kept hgB ?_
      cases hv : v1.ownBlock with
      | none => exact .inl rfl
      | some r =>
        refine .inr (fun h => ?_)
        rcases hbA r hv with h2 | h2
        · exact HR.apart r h2 h.symm
        · have := (lu r h.symm).2; omega
    simpa using h1
  · simpa using hoB
  · intro r hr hr2
    rcases hbB r hr2 with h2 | h2
    · rcases hbA r hr with h3 | h3
      · exact HR.apart r h3 h2
      · have := (lu r h2).2; omega
    · have := (lA r hr).2; omega
  · intro a ha
    cases ha
    refine ⟨fun h => ?_, fun h => ?_⟩
    · rcases hbA _ h with h2 | h2
      · have := (lo _ h2).2; simp only at this; omega
      · simp only at h2; omega
    · rcases hbB _ h with h2 | h2
      · have := (lu _ h2).2; simp only at this; omega
      · simp only at h2; omega

/-- The first width that fits. -/
theorem first_fit (n : Int) (h0 : 0 ≤ n) (h1 : n ≤ 18446744073709551615) (wAt : Nat → Nat) (h8 : wAt 3 = 8) : ∃ q, q ≤ 3 ∧ fitsI n (wAt q : Nat) = true ∧ ∀ j, j < q → fitsI n (wAt j : Nat) = false := by
  cases e0 : fitsI n (wAt 0 : Nat) with
  | true => exact ⟨0, by omega, e0, fun j hj => by omega⟩
  | false =>
    cases e1 : fitsI n (wAt 1 : Nat) with
    | true =>
      refine ⟨1, by omega, e1, fun j hj => ?_⟩
      have h : j = 0 := by omega
      rw [h]; exact e0
    | false =>
      cases e2 : fitsI n (wAt 2 : Nat) with
      | true =>
        refine ⟨2, by omega, e2, fun j hj => ?_⟩
        have h : j = 0 ∨ j = 1 := by omega
        rcases h with h | h
        · rw [h]; exact e0
        · rw [h]; exact e1
      | false =>
        refine ⟨3, by omega, by rw [h8]; exact fits_eight h0 h1, fun j hj => ?_⟩
        have h : j = 0 ∨ j = 1 ∨ j = 2 := by omega
        rcases h with h | h | h
        · rw [h]; exact e0
        · rw [h]; exact e1
        · rw [h]; exact e2
end Go.Proofs.YtcafenmkcjlhgaaDoor
