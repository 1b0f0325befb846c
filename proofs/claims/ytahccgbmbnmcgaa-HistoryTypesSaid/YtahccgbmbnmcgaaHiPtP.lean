/- A history of points in memory, and what the law on types calls. -/
import Derived.Test.YtahccgbmbnmcgaaHiMem
import Derived.Test.YtahccgbmbnmcgaaShelf
import Derived.Test.YtahccgbmbnmcgaaProg
import Derived.Deep.QuietTactic
import Derived.BigQuiet
import Derived.Outline
import Derived.OwnWalk
import Derived.WalkLawsBesides
namespace Go.Proofs.Ytahccgbmbnmcgaa
open Go Go.RowKit

def ptV (p : Int × Int) : Value := .agg #[.int .i64 p.1, .int .i64 p.2]

/-- An element, in cells. -/
def celP (p : (Int × Int)) : List Value := [Value.int .i64 p.1, Value.int .i64 p.2]

theorem celP_ok (p : (Int × Int)) : (celP p).length = 2 ∧ ∀ u ∈ celP p, u.oneCell' = true := ⟨rfl, by intro u hu; simp [celP] at hu; rcases hu with rfl | rfl <;> rfl⟩

theorem celsP (l : List (Int × Int)) : Elems 2 (l.map celP) := fun e he => by obtain ⟨x, _, rfl⟩ := List.mem_map.1 he; exact celP_ok x

/-- At block b lies a list of at most lim elements: these, of which the first m are marked; they lie in a row of their own. -/
structure HLP (W : World) (b : Nat) (p : Option Addr) (c lim m : Nat) (l : List (Int × Int)) : Prop where
  head : W.heap[b]? = some (.cells #[.pointer (some ⟨b, 0, none⟩), .int .i64 (lim : Nat), .slice p l.length c, .int .i64 (m : Nat)] 98 (0, 0))
  row : RowIs W 0 72 2 (.slice p l.length c) (l.map celP)
  apart : ∀ a, p = some a → a.block ≠ b
  ml : m ≤ l.length
  ll : l.length ≤ lim
  lm : lim ≤ 100000

section
variable {W W' : World} {b : Nat} {p : Option Addr} {c lim m : Nat} {l : List (Int × Int)}

theorem HLP.lt (h : HLP W b p c lim m l) : b < W.heap.size := (Array.getElem?_eq_some_iff.1 h.head).1

theorem HLP.own (h : HLP W b p c lim m l) {a : Addr} (ha : p = some a) : a.block < W.heap.size := by
  subst ha
  exact (h.row.lt a.block rfl).2

/-- What leaves the two blocks of the list alone leaves the list alone. -/
theorem HLP.same (h : HLP W b p c lim m l) (hb : W'.heap[b]? = W.heap[b]?) (hr : ∀ a, p = some a → W'.heap[a.block]? = W.heap[a.block]?) : HLP W' b p c lim m l := by
  refine ⟨hb.trans h.head, ⟨⟨h.row.1.1, ?_⟩, h.row.2⟩, h.apart, h.ml, h.ll, h.lm⟩
  rcases h.row.1.2 with h1 | ⟨g, cap, cur, h1, h2, h3, h4⟩
  · exact .inl h1
  · refine .inr ⟨g, cap, cur, h1, h2, ?_, h4⟩
    have : p = some ⟨g, 0, none⟩ := by injection h1
    exact (hr _ this).trans h3

theorem HLP.below (h : HLP W b p c lim m l) (hb : Below W.heap.size W W') : HLP W' b p c lim m l :=
  h.same (hb.block b h.lt) (fun _ ha => hb.block _ (h.own ha))

theorem HLP.self (h : HLP W b p c lim m l) : W.cell? ⟨b, 0, none⟩ = some (.pointer (some ⟨b, 0, none⟩)) := by simp [World.cell?, h.head]
theorem HLP.limit (h : HLP W b p c lim m l) : W.cell? ⟨b, 1, none⟩ = some (.int .i64 (lim : Nat)) := by simp [World.cell?, h.head]
theorem HLP.els (h : HLP W b p c lim m l) : W.cell? ⟨b, 2, none⟩ = some (.slice p l.length c) := by simp [World.cell?, h.head]
theorem HLP.mrk (h : HLP W b p c lim m l) : W.cell? ⟨b, 3, none⟩ = some (.int .i64 (m : Nat)) := by simp [World.cell?, h.head]
theorem HLP.frozen (h : HLP W b p c lim m l) (o : Nat) : W.frozen? ⟨b, o, none⟩ = false := by simp [World.frozen?, h.head]

/-- The row of the elements. -/
theorem HLP.items (h : HLP W b p c lim m l) {j : Nat} {x : (Int × Int)} (hx : l[j]? = some x) :
    ∃ g cur, p = some ⟨g, 0, none⟩ ∧ l.length ≤ c ∧ c ≤ maxLen ∧ W.heap[g]? = some (.cells cur 72 (0, 0)) ∧ cur.size = c * 2 ∧ cur.toList.take (l.length * 2) = (l.map celP).flatten := by
  have hj : j < l.length := (List.getElem?_eq_some_iff.1 hx).1
  rcases h.row.parts with ⟨h1, h2⟩ | ⟨g, cap, cur, h1, h2, h3, h4, h5, h6, h7⟩
  · have : l = [] := by simpa using h2
    subst this
    simp at hj
  · injection h1 with e1 e2 e3
    subst e3
    rw [List.length_map] at h4 h7
    exact ⟨g, cur, e1, h4, h5, h3, h6, h7⟩

/-- The mark set. -/
theorem HLP.setM (h : HLP W b p c lim m l) (m' : Nat) (hm : m' ≤ l.length) : HLP (W.setCell ⟨b, 3, none⟩ (.int .i64 (m' : Nat))) b p c lim m' l := by
  refine ⟨?_, h.row.kept (row := some b) ⟨rfl, rfl, rfl, by simp [World.setCell], fun k _ hk => Below.heap_setCell _ _ _ _ (fun e => hk (by rw [e]))⟩ (.inr ?_), h.apart, hm, h.ll, h.lm⟩
  · rw [setCell_eq_setRow W b 3 _ _ (0, 0) _ h.head]
    exact setRow_heap W b _ _ _ _ h.head
  · cases p with
    | none => simp [Value.ownBlock]
    | some a => simp only [Value.ownBlock]; intro e; injection e with e; exact h.apart a rfl e

/-- The same list with other elements in another row. -/
theorem HLP.newRow {w' : World} {l' : List (Int × Int)} {v' : Value} (h : HLP W b p c lim m l) (hg : W.grownBy w' (Value.slice p l.length c).ownBlock)
    (hrow : RowIs w' 0 72 2 v' (l'.map celP)) (hh : v'.ownBlock = (Value.slice p l.length c).ownBlock ∨ ∃ r, v'.ownBlock = some r ∧ W.heap.size ≤ r) (hm : m ≤ l'.length) (hs : l'.length ≤ lim) :
    ∃ p' c', v' = .slice p' l'.length c' ∧ w'.cell? ⟨b, 2, none⟩ = some (.slice p l.length c) ∧ w'.frozen? ⟨b, 2, none⟩ = false ∧ HLP (w'.setCell ⟨b, 2, none⟩ v') b p' c' lim m l' ∧ Touch b p W (w'.setCell ⟨b, 2, none⟩ v') ∧ Head p p' W.heap.size := by
  have hob : some b ≠ (Value.slice p l.length c).ownBlock := by
    cases p with
    | none => simp [Value.ownBlock]
    | some a => simp only [Value.ownBlock]; intro e; injection e with e; exact h.apart a rfl e.symm
  have hb' := (hg.block b h.lt hob).trans h.head
  have hvb : v'.ownBlock ≠ some b := by
    rcases hh with e | ⟨r, e, hr⟩
    · rw [e]; exact fun e2 => hob e2.symm
    · rw [e]; intro e2; injection e2 with e2; have := h.lt; omega
  have hrow2 := hrow
  obtain ⟨p', c', rfl⟩ : ∃ p' c', v' = .slice p' l'.length c' := by
    rcases hrow.parts with ⟨h1, h2⟩ | ⟨g, cap, cur, h1, _⟩
    · have : l' = [] := by simpa using h2
      subst this
      exact ⟨none, 0, h1⟩
    · exact ⟨some ⟨g, 0, none⟩, cap, by rw [h1, List.length_map]⟩
  have hset : (w'.setCell ⟨b, 2, none⟩ (.slice p' l'.length c')).heap[b]? = some (.cells #[.pointer (some ⟨b, 0, none⟩), .int .i64 (lim : Nat), .slice p' l'.length c', .int .i64 (m : Nat)] 98 (0, 0)) := by
    rw [setCell_eq_setRow w' b 2 _ _ (0, 0) _ hb']
    exact setRow_heap w' b _ _ _ _ hb'
  refine ⟨p', c', rfl, by simp [World.cell?, hb'], by simp [World.frozen?, hb'], ⟨hset, hrow.kept (row := some b) ⟨rfl, rfl, rfl, by simp [World.setCell], fun k _ hk => Below.heap_setCell _ _ _ _ (fun e => hk (by rw [e]))⟩ (.inr hvb), fun a ha => ?_, hm, hs, h.lm⟩, (Touch.of_grown hg).set _ _, fun a' ha' => ?_⟩
  · subst ha; intro e; exact hvb (by simp only [Value.ownBlock]; rw [e])
  · subst ha'
    rcases hh with e | ⟨r, e, hr⟩
    · cases p with
      | none => simp [Value.ownBlock] at e
      | some a => simp only [Value.ownBlock] at e; injection e with e; exact .inl ⟨a, rfl, e.symm⟩
    · simp only [Value.ownBlock] at e; injection e with e; exact .inr (by omega)
end

set_option maxHeartbeats 800000 in
set_option maxRecDepth 100000 in
theorem validP {W : World} {b : Nat} {p : Option Addr} {c lim m : Nat} {l : List (Int × Int)} (h : HLP W b p c lim m l) :
    Calls Try.prog 61 #[.pointer (some ⟨b, 0, none⟩)] W fun e w' => e = .returned (.bool true) ∧ w' = W := by
  have hs := h.self
  clear h
  have hq := fun w a => run_eql_ptr_same (P := Try.prog) w Try.underlying68 (by kernel_rfl : (Try.prog.info? 98).isSome = true) a
  go_enter Try.func61, Try.ntmps61
  go_wp2
  go_ret
  exact ⟨rfl, rfl⟩

theorem infoP : (Try.prog.info? 72).map (fun i => (i.zero, i.size, i.bytes)) = some (some (.agg #[.int .i64 0, .int .i64 0]), 2, 16) := by kernel_rfl

set_option maxHeartbeats 3200000 in
set_option maxRecDepth 100000 in
/-- Add, where there is room. -/
theorem addP {W : World} {b : Nat} {p : Option Addr} {c lim m : Nat} {l : List (Int × Int)} (h : HLP W b p c lim m l) (hlt : l.length < lim) (x : (Int × Int)) :
    Calls Try.prog 38 #[.pointer (some ⟨b, 0, none⟩), .agg #[.int .i64 x.1, .int .i64 x.2]] W fun e w' => e = .returned (.int .i64 0) ∧ ∃ p' c', HLP w' b p' c' lim m (l ++ [x]) ∧ Touch b p W w' ∧ Head p p' W.heap.size := by
  obtain ⟨X, hX⟩ : ∃ X, X = W.alloc (.cells #[.int .i64 x.1, .int .i64 x.2] 72) := ⟨_, rfl⟩
  have hXb : Below W.heap.size W X := by rw [hX]; exact (Below.refl _ _).alloc (Nat.le_refl _) _
  have hXs : X.heap.size = W.heap.size + 1 := by rw [hX]; simp
  have hXc : X.heap[W.heap.size]? = some (.cells #[.int .i64 x.1, .int .i64 x.2] 72 (0, 0)) := by rw [hX]; exact heap_alloc_new _ _
  have h1 := h.below hXb
  have hv := validP h1
  have hp := h1.els
  have hlim := h1.limit
  have hlm := h.lm
  have hm := h.ml
  have hll : (l ++ [x]).length = l.length + 1 := by simp
  have HR : Hid (∀ V, Below X.heap.size X V → V.heap.size = X.heap.size → ∃ p' c' w', (Builtin.append_ #[96, 96] 96 #[.slice p l.length c, .slice (some ⟨W.heap.size + 1, 0, none⟩) 1 1]).run Try.prog (V.alloc (.cells (celP x).toArray 72)) = .ok (.slice p' (l.length + 1) c') w' ∧ w'.cell? ⟨b, 2, none⟩ = some (.slice p l.length c) ∧ w'.frozen? ⟨b, 2, none⟩ = false ∧
      Hid (HLP (w'.setCell ⟨b, 2, none⟩ (.slice p' (l.length + 1) c')) b p' c' lim m (l ++ [x]) ∧ Touch b p W (w'.setCell ⟨b, 2, none⟩ (.slice p' (l.length + 1) c')) ∧ Head p p' W.heap.size)) := Lib.hid fun V hV hVs => by
    have hA : Below X.heap.size X (V.alloc (.cells (celP x).toArray 72)) := hV.alloc (by omega) _
    have hLA := h1.below hA
    obtain ⟨i0, hi, hz0, hz1, hz2⟩ := info_parts infoP
    obtain ⟨v', w', hr, hrow, hgrow, hhead⟩ := run_append_elem (P := Try.prog) (V.alloc (.cells (celP x).toArray 72)) 0 2 16 (W.heap.size + 1) 96 96 72 i0 _ Try.underlying96 hi hz0 hz1 hz2 rfl (.slice p l.length c) (l.map celP) (celP x) hLA.row (celP_ok _) (by rw [← hXs, ← hVs]; exact heap_alloc_new V _) (by rw [List.length_map]; omega) (by decide) (Nat.zero_le _)
    rw [show l.map celP ++ [celP x] = (l ++ [x]).map celP by simp] at hrow
    obtain ⟨p', c', rfl, hc1, hf1, hL2, hT2, hH2⟩ := hLA.newRow hgrow hrow hhead (by simp; omega) (by simp; omega)
    rw [hll] at hr hL2 hT2
    exact ⟨p', c', w', hr, hc1, hf1, Lib.hid ⟨hL2, ((Touch.of_below hXb).trans (Touch.of_below hA)).trans hT2, hH2.mono (by have := hA.size; omega)⟩⟩
  have hne : ((l.length : Int) == (lim : Int)) = false := by simp; omega
  have hbl : W.heap.size ≠ b := by have := h.lt; omega
  have c0 : X.cell? ⟨W.heap.size, 0, none⟩ = some (.int .i64 x.1) := by simp [World.cell?, hXc]
  have c1 : X.cell? ⟨W.heap.size, 1, none⟩ = some (.int .i64 x.2) := by simp [World.cell?, hXc]
  have hpA : ∀ q o, ((X.drewN q).alloc o).cell? ⟨b, 2, none⟩ = some (.slice p l.length c) := fun q o => (Below.cell ((Below.drewN' q (Below.refl X.heap.size X)).alloc (Nat.le_refl _) o) (p := ⟨b, 2, none⟩) h1.lt).trans hp
  clear h h1 hm hll
  generalize hn : l.length = n at *
  clear hn
  go_enter Try.func38, Try.ntmps38
  go_wp2_with fail
  rw [← hX]
  refine hv.mono ?_
  rintro e W1 ⟨rfl, rfl⟩
  clear hX
  go_wp2_with fail
  go_quiet (fail)
  obtain ⟨p', c', w', hr, hc1, hf1, HF⟩ := HR.out (W1.drewN (nq + 1)) (Below.drewN' _ (Below.refl _ _)) rfl
  go_wp2_with fail
  go_region_law (refine step_append_run rfl _ _ 96 96 rfl _ _ (by simp [Act.eval, Act.put]) (by simp [Act.eval, Act.put]) hr ?_)
  all_goals go_wp2_with fail
  all_goals go_ret
  all_goals exact ⟨rfl, p', c', HF.out⟩

set_option maxHeartbeats 800000 in
set_option maxRecDepth 100000 in
/-- Add, to a list that is full. -/
theorem addFullP {W : World} {b : Nat} {p : Option Addr} {c lim m : Nat} {l : List (Int × Int)} (h : HLP W b p c lim m l) (hlt : l.length = lim) (x : (Int × Int)) :
    Calls Try.prog 38 #[.pointer (some ⟨b, 0, none⟩), .agg #[.int .i64 x.1, .int .i64 x.2]] W fun e w' => e = .returned (.int .i64 4) ∧ Below W.heap.size W w' := by
  obtain ⟨X, hX⟩ : ∃ X, X = W.alloc (.cells #[.int .i64 x.1, .int .i64 x.2] 72) := ⟨_, rfl⟩
  have hXb : Below W.heap.size W X := by rw [hX]; exact (Below.refl _ _).alloc (Nat.le_refl _) _
  have h1 := h.below hXb
  have hv := validP h1
  have hp := h1.els
  have hlim := h1.limit
  subst hlt
  have HB := Lib.hid hXb
  clear h h1 hXb
  generalize l.length = n at *
  go_enter Try.func38, Try.ntmps38
  go_wp2_with fail
  rw [← hX]
  refine hv.mono ?_
  rintro e W1 ⟨rfl, rfl⟩
  clear hX
  go_wp2_with fail
  go_quiet (fail)
  go_wp2
  go_ret
  exact ⟨rfl, Below.drewN' _ HB.out⟩

/-- The cells of an element. -/
theorem HLP.at {W : World} {b : Nat} {p : Option Addr} {c lim m : Nat} {l : List (Int × Int)} (h : HLP W b p c lim m l) {j : Nat} {x : (Int × Int)} (hx : l[j]? = some x) : ∃ g, p = some ⟨g, 0, none⟩ ∧ l.length ≤ c ∧ W.cell? ⟨g, j * 2, none⟩ = some (.int .i64 x.1) ∧ W.cell? ⟨g, j * 2 + 1, none⟩ = some (.int .i64 x.2) := by
  obtain ⟨g, cur, e1, h2, h3, h4, h5, h6⟩ := h.items hx
  have hm : (l.map celP)[j]? = some (celP x) := by simp [hx]
  rw [← List.length_map (f := celP)] at h6
  exact ⟨g, e1, h2, row_cell (i := j) (j := 0) h.row.2 h4 h6 hm rfl, row_cell (i := j) (j := 1) h.row.2 h4 h6 hm rfl⟩

theorem setTwo7 {w : World} {b : Nat} {t : TypeId} {x y : Value} (h : w.heap[b]? = some (.cells #[x, y] t (0, 0))) (u v : Value) : ((w.setCell ⟨b, 0, none⟩ u).setCell ⟨b, 1, none⟩ v).heap[b]? = some (.cells #[u, v] t (0, 0)) := by
  have h1 : (w.setCell ⟨b, 0, none⟩ u).heap[b]? = some (.cells #[u, y] t (0, 0)) := by
    rw [setCell_eq_setRow w b 0 _ _ (0, 0) _ h]
    exact setRow_heap w b _ _ _ _ h
  rw [setCell_eq_setRow _ b 1 _ _ (0, 0) _ h1]
  exact setRow_heap _ b _ _ _ _ h1

set_option maxHeartbeats 1600000 in
set_option maxRecDepth 100000 in
theorem atP {W : World} {b : Nat} {p : Option Addr} {c lim m : Nat} {l : List (Int × Int)} (h : HLP W b p c lim m l) (j : Nat) (x : (Int × Int)) (hx : l[j]? = some x) :
    Calls Try.prog 39 #[.pointer (some ⟨b, 0, none⟩), .int .i64 j] W fun e w' => e = .returned (.tuple #[.agg #[.int .i64 x.1, .int .i64 x.2], .int .i64 0]) ∧ Below W.heap.size W w' := by
  have hj : j < l.length := (List.getElem?_eq_some_iff.1 hx).1
  obtain ⟨X, hX⟩ : ∃ X, X = (W.alloc (.cells #[.int .i64 0, .int .i64 0] 72)).alloc (.cells #[.int .i64 0, .int .i64 0] 72) := ⟨_, rfl⟩
  have hXb : Below W.heap.size W X := by rw [hX]; exact ((Below.refl _ _).alloc (Nat.le_refl _) _).alloc (by simp) _
  have hXc : X.heap[W.heap.size]? = some (.cells #[.int .i64 0, .int .i64 0] 72 (0, 0)) := by rw [hX]; exact (Below.heap_alloc _ _ _ (by simp)).trans (heap_alloc_new _ _)
  have h1 := h.below hXb
  obtain ⟨g, rfl, hc, hg, hg2⟩ := h1.at hx
  have hp := h1.els
  have hv := validP h1
  generalize l.length = n at *
  have h0 : ¬ (j : Int) < 0 := by omega
  have h0' : (0 : Int) ≤ (j : Int) := by omega
  have h1' : (j : Int) < (n : Int) := by omega
  have k0 : X.cell? ⟨W.heap.size, 0, none⟩ = some (.int .i64 0) := by simp [World.cell?, hXc]
  have k1 : X.cell? ⟨W.heap.size, 1, none⟩ = some (.int .i64 0) := by simp [World.cell?, hXc]
  have kf : ∀ o, X.frozen? ⟨W.heap.size, o, none⟩ = false := fun o => by simp [World.frozen?, hXc]
  have HB := Lib.hid hXb
  clear h h1 hx hXb
  go_enter Try.func39, Try.ntmps39
  go_wp2_with fail
  rw [← hX]
  refine hv.mono ?_
  rintro e W1 ⟨rfl, rfl⟩
  clear hX
  go_wp2_with fail
  have e9 := setTwo7 hXc (.int .i64 x.1) (.int .i64 x.2)
  have c9 : ((W1.setCell ⟨W.heap.size, 0, none⟩ (.int .i64 x.1)).setCell ⟨W.heap.size, 1, none⟩ (.int .i64 x.2)).cell? ⟨W.heap.size, 0, none⟩ = some (.int .i64 x.1) := by simp [World.cell?, e9]
  have c9' : ((W1.setCell ⟨W.heap.size, 0, none⟩ (.int .i64 x.1)).setCell ⟨W.heap.size, 1, none⟩ (.int .i64 x.2)).cell? ⟨W.heap.size, 1, none⟩ = some (.int .i64 x.2) := by simp [World.cell?, e9]
  refine bodyPost_ret (v := .tuple #[.agg #[.int .i64 x.1, .int .i64 x.2], .int .i64 0]) (by simp [results, Try.results39, go_sem, c9, c9']) rfl ⟨rfl, ?_⟩
  exact (HB.out.setCell (p := ⟨W.heap.size, 0, none⟩) (Nat.le_refl _) _).setCell (p := ⟨W.heap.size, 1, none⟩) (Nat.le_refl _) _
end Go.Proofs.Ytahccgbmbnmcgaa
