/- A history in memory, and the functions that only ask it. -/
import Derived.Test.YtahccgbmbnmcgaaHiMem
import Derived.Test.YtahccgbmbnmcgaaShelf
import Derived.Test.YtahccgbmbnmcgaaProg
import Derived.Deep.QuietTactic
import Derived.BigQuiet
import Derived.Outline
import Derived.OwnWalk
import Derived.WalkLawsBesides
namespace Go.Proofs.Ytahccgbmbnmcgaa
open Go Go.RowKit

/-- An element, in cells. -/
def celS (p : ByteArray) : List Value := [Value.string p]

theorem celS_ok (p : ByteArray) : (celS p).length = 1 ∧ ∀ u ∈ celS p, u.oneCell' = true := ⟨rfl, by intro u hu; simp [celS] at hu; rcases hu with rfl | rfl <;> rfl⟩

theorem celsS (l : List ByteArray) : Elems 1 (l.map celS) := fun e he => by obtain ⟨x, _, rfl⟩ := List.mem_map.1 he; exact celS_ok x

/-- At block b lies a list of at most lim elements: these, of which the first m are marked; they lie in a row of their own. -/
structure HLS (W : World) (b : Nat) (p : Option Addr) (c lim m : Nat) (l : List ByteArray) : Prop where
  head : W.heap[b]? = some (.cells #[.pointer (some ⟨b, 0, none⟩), .int .i64 (lim : Nat), .slice p l.length c, .int .i64 (m : Nat)] 41 (0, 0))
  row : RowIs W 0 9 1 (.slice p l.length c) (l.map celS)
  apart : ∀ a, p = some a → a.block ≠ b
  ml : m ≤ l.length
  ll : l.length ≤ lim
  lm : lim ≤ 100000

section
variable {W W' : World} {b : Nat} {p : Option Addr} {c lim m : Nat} {l : List ByteArray}

theorem HLS.lt (h : HLS W b p c lim m l) : b < W.heap.size := (Array.getElem?_eq_some_iff.1 h.head).1

theorem HLS.own (h : HLS W b p c lim m l) {a : Addr} (ha : p = some a) : a.block < W.heap.size := by
  subst ha
  exact (h.row.lt a.block rfl).2

/-- What leaves the two blocks of the list alone leaves the list alone. -/
theorem HLS.same (h : HLS W b p c lim m l) (hb : W'.heap[b]? = W.heap[b]?) (hr : ∀ a, p = some a → W'.heap[a.block]? = W.heap[a.block]?) : HLS W' b p c lim m l := by
  refine ⟨hb.trans h.head, ⟨⟨h.row.1.1, ?_⟩, h.row.2⟩, h.apart, h.ml, h.ll, h.lm⟩
  rcases h.row.1.2 with h1 | ⟨g, cap, cur, h1, h2, h3, h4⟩
  · exact .inl h1
  · refine .inr ⟨g, cap, cur, h1, h2, ?_, h4⟩
    have : p = some ⟨g, 0, none⟩ := by injection h1
    exact (hr _ this).trans h3

theorem HLS.below (h : HLS W b p c lim m l) (hb : Below W.heap.size W W') : HLS W' b p c lim m l :=
  h.same (hb.block b h.lt) (fun _ ha => hb.block _ (h.own ha))

theorem HLS.self (h : HLS W b p c lim m l) : W.cell? ⟨b, 0, none⟩ = some (.pointer (some ⟨b, 0, none⟩)) := by simp [World.cell?, h.head]
theorem HLS.limit (h : HLS W b p c lim m l) : W.cell? ⟨b, 1, none⟩ = some (.int .i64 (lim : Nat)) := by simp [World.cell?, h.head]
theorem HLS.els (h : HLS W b p c lim m l) : W.cell? ⟨b, 2, none⟩ = some (.slice p l.length c) := by simp [World.cell?, h.head]
theorem HLS.mrk (h : HLS W b p c lim m l) : W.cell? ⟨b, 3, none⟩ = some (.int .i64 (m : Nat)) := by simp [World.cell?, h.head]
theorem HLS.frozen (h : HLS W b p c lim m l) (o : Nat) : W.frozen? ⟨b, o, none⟩ = false := by simp [World.frozen?, h.head]

/-- The row of the elements. -/
theorem HLS.items (h : HLS W b p c lim m l) {j : Nat} {x : ByteArray} (hx : l[j]? = some x) :
    ∃ g cur, p = some ⟨g, 0, none⟩ ∧ l.length ≤ c ∧ c ≤ maxLen ∧ W.heap[g]? = some (.cells cur 9 (0, 0)) ∧ cur.size = c * 1 ∧ cur.toList.take (l.length * 1) = (l.map celS).flatten := by
  have hj : j < l.length := (List.getElem?_eq_some_iff.1 hx).1
  rcases h.row.parts with ⟨h1, h2⟩ | ⟨g, cap, cur, h1, h2, h3, h4, h5, h6, h7⟩
  · have : l = [] := by simpa using h2
    subst this
    simp at hj
  · injection h1 with e1 e2 e3
    subst e3
    rw [List.length_map] at h4 h7
    exact ⟨g, cur, e1, h4, h5, h3, h6, h7⟩

/-- The mark set. -/
theorem HLS.setM (h : HLS W b p c lim m l) (m' : Nat) (hm : m' ≤ l.length) : HLS (W.setCell ⟨b, 3, none⟩ (.int .i64 (m' : Nat))) b p c lim m' l := by
  refine ⟨?_, h.row.kept (row := some b) ⟨rfl, rfl, rfl, by simp [World.setCell], fun k _ hk => Below.heap_setCell _ _ _ _ (fun e => hk (by rw [e]))⟩ (.inr ?_), h.apart, hm, h.ll, h.lm⟩
  · rw [setCell_eq_setRow W b 3 _ _ (0, 0) _ h.head]
    exact setRow_heap W b _ _ _ _ h.head
  · cases p with
    | none => simp [Value.ownBlock]
    | some a => simp only [Value.ownBlock]; intro e; injection e with e; exact h.apart a rfl e

/-- The same list with other elements in another row. -/
theorem HLS.newRow {w' : World} {l' : List ByteArray} {v' : Value} (h : HLS W b p c lim m l) (hg : W.grownBy w' (Value.slice p l.length c).ownBlock)
    (hrow : RowIs w' 0 9 1 v' (l'.map celS)) (hh : v'.ownBlock = (Value.slice p l.length c).ownBlock ∨ ∃ r, v'.ownBlock = some r ∧ W.heap.size ≤ r) (hm : m ≤ l'.length) (hs : l'.length ≤ lim) :
    ∃ p' c', v' = .slice p' l'.length c' ∧ w'.cell? ⟨b, 2, none⟩ = some (.slice p l.length c) ∧ w'.frozen? ⟨b, 2, none⟩ = false ∧ HLS (w'.setCell ⟨b, 2, none⟩ v') b p' c' lim m l' ∧ Touch b p W (w'.setCell ⟨b, 2, none⟩ v') ∧ Head p p' W.heap.size := by
  have hob : some b ≠ (Value.slice p l.length c).ownBlock := by
    cases p with
    | none => simp [Value.ownBlock]
    | some a => simp only [Value.ownBlock]; intro e; injection e with e; exact h.apart a rfl e.symm
  have hb' := (hg.block b h.lt hob).trans h.head
  have hvb : v'.ownBlock ≠ some b := by
    rcases hh with e | ⟨r, e, hr⟩
    · rw [e]; exact fun e2 => hob e2.symm
    · rw [e]; intro e2; injection e2 with e2; have := h.lt; omega
  have hrow2 := hrow
  obtain ⟨p', c', rfl⟩ : ∃ p' c', v' = .slice p' l'.length c' := by
    rcases hrow.parts with ⟨h1, h2⟩ | ⟨g, cap, cur, h1, _⟩
    · have : l' = [] := by simpa using h2
      subst this
      exact ⟨none, 0, h1⟩
    · exact ⟨some ⟨g, 0, none⟩, cap, by rw [h1, List.length_map]⟩
  have hset : (w'.setCell ⟨b, 2, none⟩ (.slice p' l'.length c')).heap[b]? = some (.cells #[.pointer (some ⟨b, 0, none⟩), .int .i64 (lim : Nat), .slice p' l'.length c', .int .i64 (m : Nat)] 41 (0, 0)) := by
    rw [setCell_eq_setRow w' b 2 _ _ (0, 0) _ hb']
    exact setRow_heap w' b _ _ _ _ hb'
  refine ⟨p', c', rfl, by simp [World.cell?, hb'], by simp [World.frozen?, hb'], ⟨hset, hrow.kept (row := some b) ⟨rfl, rfl, rfl, by simp [World.setCell], fun k _ hk => Below.heap_setCell _ _ _ _ (fun e => hk (by rw [e]))⟩ (.inr hvb), fun a ha => ?_, hm, hs, h.lm⟩, (Touch.of_grown hg).set _ _, fun a' ha' => ?_⟩
  · subst ha; intro e; exact hvb (by simp only [Value.ownBlock]; rw [e])
  · subst ha'
    rcases hh with e | ⟨r, e, hr⟩
    · cases p with
      | none => simp [Value.ownBlock] at e
      | some a => simp only [Value.ownBlock] at e; injection e with e; exact .inl ⟨a, rfl, e.symm⟩
    · simp only [Value.ownBlock] at e; injection e with e; exact .inr (by omega)
end

set_option maxHeartbeats 800000 in
set_option maxRecDepth 100000 in
theorem validS {W : World} {b : Nat} {p : Option Addr} {c lim m : Nat} {l : List ByteArray} (h : HLS W b p c lim m l) :
    Calls Try.prog 45 #[.pointer (some ⟨b, 0, none⟩)] W fun e w' => e = .returned (.bool true) ∧ w' = W := by
  have hs := h.self
  clear h
  have hq := fun w a => run_eql_ptr_same (P := Try.prog) w Try.underlying24 (by kernel_rfl : (Try.prog.info? 41).isSome = true) a
  go_enter Try.func45, Try.ntmps45
  go_wp2
  go_ret
  exact ⟨rfl, rfl⟩

theorem infoS : (Try.prog.info? 9).map (fun i => (i.zero, i.size, i.bytes)) = some (some (.string ⟨#[]⟩), 1, 16) := by kernel_rfl

set_option maxHeartbeats 1600000 in
set_option maxRecDepth 100000 in
/-- Add, where there is room. -/
theorem addS {W : World} {b : Nat} {p : Option Addr} {c lim m : Nat} {l : List ByteArray} (h : HLS W b p c lim m l) (hlt : l.length < lim) (x : ByteArray) :
    Calls Try.prog 13 #[.pointer (some ⟨b, 0, none⟩), Value.string x] W fun e w' => e = .returned (.int .i64 0) ∧ ∃ p' c', HLS w' b p' c' lim m (l ++ [x]) ∧ Touch b p W w' ∧ Head p p' W.heap.size := by
  have hv := validS h
  have hp := h.els
  have hlim := h.limit
  have hlm := h.lm
  have hm := h.ml
  have hll : (l ++ [x]).length = l.length + 1 := by simp
  have HR : Hid (∀ q, ∃ p' c' w', (Builtin.append_ #[39, 39] 39 #[.slice p l.length c, .slice (some ⟨W.heap.size, 0, none⟩) 1 1]).run Try.prog ((W.drewN q).alloc (.cells (celS x).toArray 9)) = .ok (.slice p' (l.length + 1) c') w' ∧ w'.cell? ⟨b, 2, none⟩ = some (.slice p l.length c) ∧ w'.frozen? ⟨b, 2, none⟩ = false ∧
      Hid (HLS (w'.setCell ⟨b, 2, none⟩ (.slice p' (l.length + 1) c')) b p' c' lim m (l ++ [x]) ∧ Touch b p W (w'.setCell ⟨b, 2, none⟩ (.slice p' (l.length + 1) c')) ∧ Head p p' W.heap.size)) := Lib.hid fun q => by
    have hA : Below W.heap.size W ((W.drewN q).alloc (.cells (celS x).toArray 9)) := (Below.drewN' q (Below.refl _ _)).alloc (Nat.le_refl _) _
    have hLA := h.below hA
    obtain ⟨i0, hi, hz0, hz1, hz2⟩ := info_parts infoS
    obtain ⟨v', w', hr, hrow, hgrow, hhead⟩ := run_append_elem (P := Try.prog) ((W.drewN q).alloc (.cells (celS x).toArray 9)) 0 1 16 W.heap.size 39 39 9 i0 _ Try.underlying39 hi hz0 hz1 hz2 rfl (.slice p l.length c) (l.map celS) (celS x) hLA.row (celS_ok _) (heap_alloc_new (W.drewN q) _) (by rw [List.length_map]; omega) (by decide) (Nat.zero_le _)
    rw [show l.map celS ++ [celS x] = (l ++ [x]).map celS by simp] at hrow
    obtain ⟨p', c', rfl, hc1, hf1, hL2, hT2, hH2⟩ := hLA.newRow hgrow hrow hhead (by simp; omega) (by simp; omega)
    rw [hll] at hr hL2 hT2
    exact ⟨p', c', w', hr, hc1, hf1, Lib.hid ⟨hL2, (Touch.of_below hA).trans hT2, hH2.mono hA.size⟩⟩
  have hne : ((l.length : Int) == (lim : Int)) = false := by simp; omega
  clear h hm hll
  generalize hn : l.length = n at *
  clear hn
  go_enter Try.func13, Try.ntmps13
  go_wp2_with fail
  refine hv.mono ?_
  rintro e W1 ⟨rfl, rfl⟩
  go_wp2_with fail
  go_quiet (fail)
  obtain ⟨p', c', w', hr, hc1, hf1, HF⟩ := HR.out nq
  go_wp2_with (at_builtin; refine wpList_append_run _ rfl _ _ 39 39 rfl _ _ rfl rfl hr ?_)
  go_ret
  exact ⟨rfl, p', c', HF.out⟩

set_option maxHeartbeats 800000 in
set_option maxRecDepth 100000 in
/-- Add, to a list that is full. -/
theorem addFullS {W : World} {b : Nat} {p : Option Addr} {c lim m : Nat} {l : List ByteArray} (h : HLS W b p c lim m l) (hlt : l.length = lim) (x : ByteArray) :
    Calls Try.prog 13 #[.pointer (some ⟨b, 0, none⟩), Value.string x] W fun e w' => e = .returned (.int .i64 4) ∧ Below W.heap.size W w' := by
  have hv := validS h
  have hp := h.els
  have hlim := h.limit
  subst hlt
  clear h
  generalize l.length = n at *
  go_enter Try.func13, Try.ntmps13
  go_wp2_with fail
  refine hv.mono ?_
  rintro e W1 ⟨rfl, rfl⟩
  go_wp2_with fail
  go_quiet (fail)
  go_wp2
  go_ret
  exact ⟨rfl, Below.drewN' _ (Below.refl _ _)⟩
end Go.Proofs.Ytahccgbmbnmcgaa
