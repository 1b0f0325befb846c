/- CodecRoundTrip: two rows that grow side by side; bytes.Clone; what the rounds gather. -/
import Derived.Test.YtcafenmkcjlhgaaDoorRef1
import Derived.ArgAppend
namespace Go.Proofs.YtcafenmkcjlhgaaDoor
open Go Go.RowKit

theorem ownsRow_base {w : World} {base base' : Nat} {e : TypeId} {size : Nat} {v : Value} {n : Nat} {xs : List Value} (h : w.ownsRow base' e size v n xs) (hb : base ≤ base') : w.ownsRow base e size v n xs := by
  refine ⟨h.1, ?_⟩
  rcases h.2 with h2 | ⟨g, cap, cur, e1, e2, e3⟩
  · exact .inl h2
  · exact .inr ⟨g, cap, cur, e1, Nat.le_trans hb e2, e3⟩

/-- An owned row grows: its head stays where it was, or is new. -/
theorem wpList_append_two {P : Program} {w : World} {ops : Array Oper} {rest : List Oper} {o : Oper} {a : Act} {Q : Exit → Act → World → Prop} (hgd : o.guard = none) (s x : Operand) (t : TypeId)
    (ho : o.op = .call { callee := .builtin .append, args := #[s, x], argTypes := #[t, t] })
    (base : Nat) (e : TypeId) (i : TypeInfo) (z : Value) (size bytes : Nat) (ht : P.underlying t = some (.slice e)) (hi : P.info? e = some i) (hz : i.zero = some z)
    (hsize : i.size = size) (hby : i.bytes = bytes) (hzs : z.cells.size = size) (hsz : 0 < size)
    (v : Value) (n : Nat) (xs : List Value) (hs : a.eval s = v) (hown : w.ownsRow base e size v n xs)
    (ad : Addr) (m c : Nat) (news : List Value) (hx : a.eval x = .slice (some ad) m c) (hl : news.length = m * size) (hnews : ∀ j u, news[j]? = some u → w.cell? (ad.add j) = some u) (h1 : ∀ u ∈ news, u.oneCell' = true)
    (h63 : n + m ≤ maxLen) (hbytes : (n + m) * bytes ≤ 140737488355328) (hbase : base ≤ w.heap.size)
    (h : ∀ v' w', w'.ownsRow base e size v' (n + m) (xs ++ news) → w.grownBy w' v.ownBlock → (∀ r, v'.ownBlock = some r → v.ownBlock = some r ∨ w.heap.size ≤ r) → wpList P ops Q rest (a.put o.dst v') w') : wpList P ops Q (o :: rest) a w := by
  have hown2 := hown
  rcases hown2.2 with ⟨rfl, rfl⟩ | ⟨g, cap, cur, rfl, hbg, hg, hnc, hcm, hcs, htake⟩
  · have hx0 : xs = [] := List.eq_nil_of_length_eq_zero (by simpa using hown.1)
    subst hx0
    refine wpList_append_own _ hgd s x t ho w.heap.size e i z size bytes ht hi hz hsize hby hzs hsz _ 0 [] hs (World.ownsRow_nil _ _ _ _) ad m c news hx hl hnews h1 h63 hbytes (Nat.le_refl _) ?_
    intro v' w' h2 h3 _
    exact h v' w' (ownsRow_base h2 hbase) h3 (fun r hr => .inr (h2.lt r hr).1)
  · by_cases hroom : n + m ≤ cap
    · refine wpList_append_fits w hgd s x t ho base e i size ht hi hsize g n cap xs hs hown ad m c news hx hl hnews h1 hroom ?_
      intro w' h2 h3
      exact h _ w' h2 h3 (fun r hr => .inl hr)
    · refine wpList_append_grows w hgd s x t ho e i z size bytes ht hi hz hsize hby hzs hsz (some ⟨g, 0, none⟩) n cap xs hs (fun h => by cases h) hown.1 (fun b hb => by cases hb; exact hown.cells (g := g) rfl) ad m c news hx hl hnews h1 (by omega) h63 hbytes ?_
      intro v' w' h2 h3
      refine h v' w' (ownsRow_base h2 hbase) ⟨h3.os, h3.tape, h3.output, h3.size, fun k hk _ => h3.block k hk (by simp)⟩ (fun r hr => .inr (h2.lt r hr).1)

/-- A row of ints, read. -/
theorem row_ints {w : World} {base : Nat} {e : TypeId} {v : Value} {n : Nat} {os : List Nat} (h : w.ownsRow base e 1 v n (os.map fun o => Value.int .i64 (o : Nat))) :
    ∃ p c, v = .slice p n c ∧ n ≤ c ∧ os.length = n ∧ (0 < n → ∃ g, p = some ⟨g, 0, none⟩ ∧ ∀ i, i < n → w.cell? ⟨g, i, none⟩ = some (.int .i64 (os.getD i 0 : Nat))) := by
  have hl : os.length = n := by have := h.1; simpa using this
  rcases h.2 with ⟨rfl, rfl⟩ | ⟨g, cap, cur, rfl, _, hg, hnc, _, _, _⟩
  · exact ⟨none, 0, rfl, Nat.le_refl _, hl, fun h => by omega⟩
  · refine ⟨_, cap, rfl, hnc, hl, fun _ => ⟨g, rfl, fun i hi => ?_⟩⟩
    have := h.cells (g := g) rfl i (.int .i64 (os.getD i 0 : Nat)) (by simp [List.getD, show i < os.length by omega])
    have hadd : (⟨g, 0, none⟩ : Addr).add i = ⟨g, i, none⟩ := by unfold Addr.add; split <;> simp_all
    rwa [hadd] at this

theorem Clone_c {p : Option Addr} {n c : Nat} {xs : List Int} (w : World) (hS : Sl w p n c xs) (hn : n ≤ 1000000) :
    Calls Tryd.prog 25 #[.slice p n c] w fun e w' => ∃ p' n' c', e = .returned (.slice p' n' c') ∧ Sl w' p' n' c' xs ∧ Below w.heap.size w w' := by
  cases p with
  | none =>
    obtain ⟨rfl, rfl⟩ := hS.nil rfl
    have hx0 : xs = [] := List.eq_nil_of_length_eq_zero hS.len
    subst hx0
    refine (Tryd.bytes_Clone_nil 0 0 w).mono ?_
    rintro e w' ⟨rfl, rfl⟩
    exact ⟨none, 0, 0, rfl, sl_nil _, Below.refl _ _⟩
  | some x =>
    refine (Tryd.bytes_Clone_at x n c xs w hS.len (by omega) ?_).mono ?_
    · intro i hi
      exact cells_of_in hS.len hS.bytes x rfl i _ (by simp [List.getD, show i < xs.length by rw [hS.len]; exact hi])
    · rintro e w' ⟨v', rfl, hown, _, hb⟩
      obtain ⟨p', n', c', rfl, hs⟩ := sl_owns hown hS.rng
      exact ⟨p', n', c', rfl, hs, hb⟩

/-- What the rounds have gathered: each number lies at its offset in its width. -/
structure RT (B X zs : List Int) (os ws : List Nat) (k : Nat) : Prop where
  lo : os.length = k
  lw : ws.length = k
  pre : B <+: X
  len : X.length ≤ B.length + 8 * k
  got : ∀ j, j < k → isW (ws.getD j 0 : Nat) = true ∧ os.getD j 0 + ws.getD j 0 ≤ X.length ∧ val ((X.drop (os.getD j 0)).take (ws.getD j 0)) = zs.getD j 0

theorem RT.zero (B zs : List Int) : RT B B zs [] [] 0 := ⟨rfl, rfl, List.prefix_refl _, by omega, fun j hj => by omega⟩

theorem getD_snoc_lt {l : List Nat} {x j : Nat} (h : j < l.length) : (l ++ [x]).getD j 0 = l.getD j 0 := by
  simp [List.getD, List.getElem?_append_left h]
theorem getD_snoc_last {l : List Nat} {x j : Nat} (h : j = l.length) : (l ++ [x]).getD j 0 = x := by
  subst h; simp [List.getD]

theorem RT.step {B X zs : List Int} {os ws : List Nat} {k m : Nat} (h : RT B X zs os ws k) (hw : isW (m : Nat) = true) (hf : fitsI (zs.getD k 0) m = true) (h0 : 0 ≤ zs.getD k 0) :
    RT B (X ++ le (zs.getD k 0) m) zs (os ++ [X.length]) (ws ++ [m]) (k + 1) := by
  have hm8 : m ≤ 8 := by rcases isW_cases hw with h | h | h | h <;> omega
  refine ⟨by simp [h.lo], by simp [h.lw], h.pre.trans (List.prefix_append _ _), by rw [List.length_append, le_length]; have := h.len; omega, fun j hj => ?_⟩
  by_cases hjk : j < k
  · have hg := h.got j hjk
    rw [getD_snoc_lt (l := os) (by rw [h.lo]; exact hjk), getD_snoc_lt (l := ws) (by rw [h.lw]; exact hjk)]
    refine ⟨hg.1, by rw [List.length_append]; omega, ?_⟩
    rw [List.drop_append_of_le_length (by omega), List.take_append_of_le_length (by rw [List.length_drop]; omega)]
    exact hg.2.2
  · have hjk : j = k := by omega
    subst hjk
    rw [getD_snoc_last (l := os) h.lo.symm, getD_snoc_last (l := ws) h.lw.symm]
    refine ⟨hw, by rw [List.length_append, le_length]; omega, ?_⟩
    rw [List.drop_left, List.take_of_length_le (by rw [le_length]; omega), val_le _ _ h0]
    rw [fits_pow hw, beq_iff_eq] at hf
    have hp : (0 : Int) < 2 ^ (8 * m) := Int.pow_pos (by decide)
    have := Int.emod_add_mul_ediv (zs.getD j 0) (2 ^ (8 * m))
    rw [hf] at this
    omega
end Go.Proofs.YtcafenmkcjlhgaaDoor
