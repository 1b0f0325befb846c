/- Slices in memory, of whatever stage: what they hold, how they grow. -/
import Derived.Test.YtpnhklehpilopaaChecked
import Derived.WalkKit
import Derived.WalkSpells
import Derived.WalkLawsBesides
import Derived.WalkSmall
import Derived.ArgAppend
import Derived.Lib.Bytes
import Derived.Shelf.Bytes.SlSmallAll
import Derived.Lib.Hide
import Derived.OpenShut
namespace Go.Proofs.Ytpnhklehpilopaa
open Go Go.RowKit

/-- The slice value v is made of the bytes l (as numbers), in the world w. -/
def Row (w : World) (v : Value) (l : List Int) : Prop := ∃ p n c, v = .slice p n c ∧ l.length = n ∧ n ≤ c ∧ Lib.BytesIn w p n l ∧ (p = none → n = 0 ∧ c = 0)

theorem bytesIn_below {w w' : World} {p : Option Addr} {n : Nat} {l : List Int} (h : Lib.BytesIn w p n l) (hb : Below w.heap.size w w') : Lib.BytesIn w' p n l := by
  intro hn
  obtain ⟨b, o, rfl, hc⟩ := h hn
  refine ⟨b, o, rfl, fun i hi => ?_⟩
  have h1 := hc i hi
  have hlt : b < w.heap.size := World.block_lt_of_cell? w _ h1
  rw [hb.cell (p := ⟨b, o + i, none⟩) hlt]
  exact h1

theorem Row.below {w w' : World} {v : Value} {l : List Int} (h : Row w v l) (hb : Below w.heap.size w w') : Row w' v l := by
  obtain ⟨p, n, c, rfl, h1, h2, h3, h4⟩ := h
  exact ⟨p, n, c, rfl, h1, h2, bytesIn_below h3 hb, h4⟩

theorem row_nil (w : World) : Row w (.slice none 0 0) [] := ⟨none, 0, 0, rfl, rfl, Nat.le_refl _, Lib.BytesIn.nil _ _ _, fun _ => ⟨rfl, rfl⟩⟩

theorem row_owns {w : World} {base : Nat} {e : TypeId} {v : Value} {n : Nat} {l : List Int} (h : w.ownsRow base e 1 v n (l.map (Value.int .u8))) : Row w v l := by
  have hlen : l.length = n := by have := h.1; simpa using this
  rcases h.2 with ⟨rfl, rfl⟩ | ⟨g, cap, cur, rfl, hb, hg, hcap, hm, hs, ht⟩
  · have : l = [] := List.eq_nil_of_length_eq_zero hlen
    subst this
    exact row_nil w
  · refine ⟨_, n, cap, rfl, hlen, hcap, ?_, fun h => by cases h⟩
    intro hn
    refine ⟨g, 0, rfl, fun i hi => ?_⟩
    have h1 := h.cellAt i (by omega)
    rw [Nat.zero_add, h1]
    simp [List.getD, hlen, hi]

/-- Cells of a source of bytes, for the laws on append. -/
theorem cells_of_in {w : World} {p : Option Addr} {n : Nat} {l : List Int} (hl : l.length = n) (h : Lib.BytesIn w p n l) : ∀ ad, p = some ad → ∀ j u, (l.map (Value.int .u8))[j]? = some u → w.cell? (ad.add j) = some u := by
  intro ad hp j u hu
  have hj : j < l.length := by have := (List.getElem?_eq_some_iff.1 hu).1; simpa using this
  obtain ⟨b, o, hp', hc⟩ := h (by omega)
  rw [hp] at hp'
  obtain rfl := Option.some.inj hp'
  rw [Addr.add_lit, hc j (by omega)]
  simp [hj] at hu
  simp [List.getD, hj, hu]

/-- The slice at p, n long, holds the bytes l. -/
structure Sl (w : World) (p : Option Addr) (n c : Nat) (l : List Int) : Prop where
  len : l.length = n
  cap : n ≤ c
  bytes : Lib.BytesIn w p n l
  nil : p = none → n = 0 ∧ c = 0
  rng : ∀ x ∈ l, 0 ≤ x ∧ x < 256

theorem Sl.below {w w' : World} {p : Option Addr} {n c : Nat} {l : List Int} (h : Sl w p n c l) (hb : Below w.heap.size w w') : Sl w' p n c l :=
  ⟨h.len, h.cap, bytesIn_below h.bytes hb, h.nil, h.rng⟩

theorem sl_nil (w : World) : Sl w none 0 0 [] := ⟨rfl, Nat.le_refl _, Lib.BytesIn.nil _ _ _, fun _ => ⟨rfl, rfl⟩, fun _ h => by cases h⟩

theorem sl_owns {w : World} {base : Nat} {e : TypeId} {v : Value} {n : Nat} {l : List Int} (h : w.ownsRow base e 1 v n (l.map (Value.int .u8))) (hr : ∀ x ∈ l, 0 ≤ x ∧ x < 256) :
    ∃ p n' c, v = .slice p n' c ∧ Sl w p n' c l := by
  obtain ⟨p, n', c, rfl, h1, h2, h3, h4⟩ := row_owns h
  exact ⟨p, n', c, rfl, h1, h2, h3, h4, hr⟩

/-- A new block that holds just these bytes. -/
theorem sl_new (w : World) (l : List Int) (n : Nat) (hn : l.length = n) (hr : ∀ x ∈ l, 0 ≤ x ∧ x < 256) (e : TypeId) : Sl (w.alloc (.cells (l.map (Value.int .u8)).toArray e)) (some ⟨w.heap.size, 0, none⟩) n n l := by
  refine ⟨hn, Nat.le_refl _, ?_, (fun h => by cases h), hr⟩
  intro _
  refine ⟨_, 0, rfl, fun i hi => ?_⟩
  rw [World.cell?_alloc_new, Nat.zero_add]
  simp [List.getD, show i < l.length by omega]

theorem bytesOf_inj {a b : List Int} (ha : ∀ x ∈ a, 0 ≤ x ∧ x < 256) (hb : ∀ x ∈ b, 0 ≤ x ∧ x < 256) (h : Lib.bytesOf a = Lib.bytesOf b) : a = b := by
  induction a generalizing b with
  | nil => cases b with
    | nil => rfl
    | cons y s => simp [Lib.bytesOf] at h
  | cons x r ih => cases b with
    | nil => simp [Lib.bytesOf] at h
    | cons y s =>
      simp only [Lib.bytesOf, List.map_cons, List.cons.injEq] at h
      have hx := ha x (by simp)
      have hy := hb y (by simp)
      have h1 := congrArg UInt8.toNat h.1
      simp only [UInt8.toNat_ofNat'] at h1
      have e : x = y := by omega
      rw [e, ih (fun z hz => ha z (by simp [hz])) (fun z hz => hb z (by simp [hz])) h.2]

/-- The first bytes of a slice. -/
theorem Sl.take {w : World} {p : Option Addr} {n c : Nat} {l : List Int} (h : Sl w p n c l) (k : Nat) (hk : k ≤ n) : Sl w p k c (l.take k) := by
  refine ⟨by rw [List.length_take, h.len]; omega, Nat.le_trans hk h.cap, ?_, ?_, fun x hx => h.rng x (List.mem_of_mem_take hx)⟩
  · intro hpos
    obtain ⟨b, o, hp, hc⟩ := h.bytes (by omega)
    refine ⟨b, o, hp, fun i hi => ?_⟩
    rw [hc i (by omega)]
    simp [List.getD, hi]
  · intro hp
    have := h.nil hp
    exact ⟨by omega, this.2⟩

theorem Sl.kept {w w' : World} {p : Option Addr} {n c : Nat} {l : List Int} {row : Option Nat} (h : Sl w p n c l) (hg : w.grownBy w' row) (hne : ∀ a, p = some a → some a.block ≠ row) : Sl w' p n c l := by
  refine ⟨h.len, h.cap, ?_, h.nil, h.rng⟩
  intro hn
  obtain ⟨b, o, hp, hc⟩ := h.bytes hn
  exact ⟨b, o, hp, fun i hi => hg.cell (hc i hi) (show some b ≠ row from hne ⟨b, o, none⟩ hp)⟩

theorem ownsRow_base {w : World} {base base' : Nat} {e : TypeId} {size : Nat} {v : Value} {n : Nat} {xs : List Value} (h : w.ownsRow base' e size v n xs) (hb : base ≤ base') : w.ownsRow base e size v n xs := by
  refine ⟨h.1, ?_⟩
  rcases h.2 with h2 | ⟨g, cap, cur, e1, e2, e3⟩
  · exact .inl h2
  · exact .inr ⟨g, cap, cur, e1, Nat.le_trans hb e2, e3⟩

/-- An owned row grows: its head stays where it was, or is new. -/
theorem wpList_append_two {P : Program} {w : World} {ops : Array Oper} {rest : List Oper} {o : Oper} {a : Act} {Q : Exit → Act → World → Prop} (hgd : o.guard = none) (s x : Operand) (t : TypeId)
    (ho : o.op = .call { callee := .builtin .append, args := #[s, x], argTypes := #[t, t] })
    (base : Nat) (e : TypeId) (i : TypeInfo) (z : Value) (size bytes : Nat) (ht : P.underlying t = some (.slice e)) (hi : P.info? e = some i) (hz : i.zero = some z)
    (hsize : i.size = size) (hby : i.bytes = bytes) (hzs : z.cells.size = size) (hsz : 0 < size)
    (v : Value) (n : Nat) (xs : List Value) (hs : a.eval s = v) (hown : w.ownsRow base e size v n xs)
    (ad : Addr) (m c : Nat) (news : List Value) (hx : a.eval x = .slice (some ad) m c) (hl : news.length = m * size) (hnews : ∀ j u, news[j]? = some u → w.cell? (ad.add j) = some u) (h1 : ∀ u ∈ news, u.oneCell' = true)
    (h63 : n + m ≤ maxLen) (hbytes : (n + m) * bytes ≤ 140737488355328) (hbase : base ≤ w.heap.size)
    (h : ∀ v' w', w'.ownsRow base e size v' (n + m) (xs ++ news) → w.grownBy w' v.ownBlock → (∀ r, v'.ownBlock = some r → v.ownBlock = some r ∨ w.heap.size ≤ r) → wpList P ops Q rest (a.put o.dst v') w') : wpList P ops Q (o :: rest) a w := by
  have hown2 := hown
  rcases hown2.2 with ⟨rfl, rfl⟩ | ⟨g, cap, cur, rfl, hbg, hg, hnc, hcm, hcs, htake⟩
  · have hx0 : xs = [] := List.eq_nil_of_length_eq_zero (by simpa using hown.1)
    subst hx0
    refine wpList_append_own _ hgd s x t ho w.heap.size e i z size bytes ht hi hz hsize hby hzs hsz _ 0 [] hs (World.ownsRow_nil _ _ _ _) ad m c news hx hl hnews h1 h63 hbytes (Nat.le_refl _) ?_
    intro v' w' h2 h3 _
    exact h v' w' (ownsRow_base h2 hbase) h3 (fun r hr => .inr (h2.lt r hr).1)
  · by_cases hroom : n + m ≤ cap
    · refine wpList_append_fits w hgd s x t ho base e i size ht hi hsize g n cap xs hs hown ad m c news hx hl hnews h1 hroom ?_
      intro w' h2 h3
      exact h _ w' h2 h3 (fun r hr => .inl hr)
    · refine wpList_append_grows w hgd s x t ho e i z size bytes ht hi hz hsize hby hzs hsz (some ⟨g, 0, none⟩) n cap xs hs (fun h => by cases h) hown.1 (fun b hb => by cases hb; exact hown.cells (g := g) rfl) ad m c news hx hl hnews h1 (by omega) h63 hbytes ?_
      intro v' w' h2 h3
      refine h v' w' (ownsRow_base h2 hbase) ⟨h3.os, h3.tape, h3.output, h3.size, fun k hk _ => h3.block k hk (by simp)⟩ (fun r hr => .inr (h2.lt r hr).1)

/-- A row of ints, read. -/
theorem row_ints {w : World} {base : Nat} {e : TypeId} {v : Value} {n : Nat} {os : List Nat} (h : w.ownsRow base e 1 v n (os.map fun o => Value.int .i64 (o : Nat))) :
    ∃ p c, v = .slice p n c ∧ n ≤ c ∧ os.length = n ∧ (0 < n → ∃ g, p = some ⟨g, 0, none⟩ ∧ ∀ i, i < n → w.cell? ⟨g, i, none⟩ = some (.int .i64 (os.getD i 0 : Nat))) := by
  have hl : os.length = n := by have := h.1; simpa using this
  rcases h.2 with ⟨rfl, rfl⟩ | ⟨g, cap, cur, rfl, _, hg, hnc, _, _, _⟩
  · exact ⟨none, 0, rfl, Nat.le_refl _, hl, fun h => by omega⟩
  · refine ⟨_, cap, rfl, hnc, hl, fun _ => ⟨g, rfl, fun i hi => ?_⟩⟩
    have := h.cells (g := g) rfl i (.int .i64 (os.getD i 0 : Nat)) (by simp [List.getD, show i < os.length by omega])
    have hadd : (⟨g, 0, none⟩ : Addr).add i = ⟨g, i, none⟩ := by unfold Addr.add; split <;> simp_all
    rwa [hadd] at this

/-- What the walk is told of a slice of integers that came in. -/
def IsRow (k : IntKind) (w : World) (a : Option Addr) (len cap : Nat) (zs : List Int) : Prop :=
  (a = none ∧ len = 0 ∧ cap = 0 ∧ zs = []) ∨
  ∃ x, a = some x ∧ len ≤ cap ∧ cap ≤ maxLen ∧ zs.length = cap ∧ (∀ i, i < zs.length → w.cell? (x.add i) = some (.int k (zs.getD i 0))) ∧ ∀ n ∈ zs, (Lit.int k n).wf = true

/-- A slice of bytes that came in, by what it holds. -/
theorem isRow_sl {w : World} {a : Option Addr} {len cap : Nat} {zs : List Int} (h : IsRow .u8 w a len cap zs) : Sl w a len cap (zs.take len) ∧ cap ≤ maxLen := by
  rcases h with ⟨rfl, rfl, rfl, rfl⟩ | ⟨x, rfl, hl, hm, hz, hc, hw⟩
  · exact ⟨sl_nil w, Nat.zero_le _⟩
  · refine ⟨⟨by simp; omega, hl, Lib.BytesIn.of_cells (fun i hi => ?_), (fun h => by cases h), fun y hy => ?_⟩, hm⟩
    · rw [hc i (by omega)]; simp [List.getD, hi]
    · have := hw y (List.mem_of_mem_take hy)
      have := bounds_u8 this
      omega

end Go.Proofs.Ytpnhklehpilopaa
