/- A slice whose elements take several cells, as its own row in memory: what copy, append and clear do to it. Of no program. -/
import Derived.WalkKit
import Derived.Laws.AppendOwn
import Derived.Laws.CopyRow
import Derived.Lib.AppendZerosOnto
import Derived.Shelf.RegionOpenPlain
import Derived.Deep.RegionLaw
import Derived.Shelf.Spec.SlicesInsert
import Derived.LaidEql
namespace Go.Proofs.Ytahccgbmbnmcgaa
open Go Go.RowKit

/-- Cells laid over a row. -/
def spl (cur : List Value) (o : Nat) (cs : List Value) : List Value := cur.take o ++ cs ++ cur.drop (o + cs.length)

theorem spl_length {cur : List Value} {o : Nat} {cs : List Value} (h : o + cs.length ≤ cur.length) : (spl cur o cs).length = cur.length := by
  simp [spl]; omega

theorem spl_take {cur : List Value} {o : Nat} {cs : List Value} (h : o + cs.length ≤ cur.length) : (spl cur o cs).take (o + cs.length) = cur.take o ++ cs := by
  unfold spl
  rw [List.take_append_of_le_length (by simp; omega), List.take_of_length_le (by simp; omega)]

theorem spl_take_le {cur : List Value} {o k : Nat} {cs : List Value} (hk : k ≤ o) (h : o ≤ cur.length) : (spl cur o cs).take k = cur.take k := by
  unfold spl
  rw [List.append_assoc, List.take_append_of_le_length (by simp; omega), List.take_take, Nat.min_eq_left hk]

theorem spl_drop {cur : List Value} {o : Nat} {cs : List Value} (h : o ≤ cur.length) : (spl cur o cs).drop o = cs ++ cur.drop (o + cs.length) := by
  unfold spl
  rw [List.append_assoc]
  exact List.drop_left' (by simp; omega)

/-- In place: what stood from o on goes up, then x goes in. -/
theorem spl_shift {cur D x : List Value} {o : Nat} (h : o + x.length + D.length ≤ cur.length) :
    (spl (spl cur (o + x.length) D) o x).take (o + x.length + D.length) = cur.take o ++ x ++ D := by
  have hl := spl_length (cur := cur) (o := o + x.length) (cs := D) h
  unfold spl at hl
  have h1 : (spl cur (o + x.length) D).take o = cur.take o := spl_take_le (by omega) (by omega)
  have h2 : (spl cur (o + x.length) D).drop (o + x.length) = D ++ cur.drop (o + x.length + D.length) := spl_drop (by omega)
  rw [spl, h1, h2]
  rw [← List.append_assoc, List.take_append_of_le_length (by simp; omega), List.take_of_length_le (by simp; omega)]

/-- In a new row: x, then what stood from o on. -/
theorem spl_behind {cur D x : List Value} {o : Nat} (h : o + x.length + D.length ≤ cur.length) :
    (spl (spl cur o x) (o + x.length) D).take (o + x.length + D.length) = cur.take o ++ x ++ D := by
  rw [spl_take (by rw [spl_length (by omega)]; exact h), spl_take (by omega)]

/-- Each element takes K cells, of one cell each. -/
def Elems (K : Nat) (es : List (List Value)) : Prop := ∀ e ∈ es, e.length = K ∧ ∀ u ∈ e, u.oneCell' = true

theorem Elems.len {K : Nat} : ∀ {es : List (List Value)}, Elems K es → es.flatten.length = es.length * K
  | [], _ => by simp
  | e :: t, h => by
    have h1 := (h e (by simp)).1
    have h2 : t.flatten.length = t.length * K := Elems.len (fun x hx => h x (by simp [hx]))
    simp only [List.flatten_cons, List.length_append, List.length_cons, h1, h2, Nat.add_mul, Nat.one_mul]
    omega
theorem Elems.take {K : Nat} {es : List (List Value)} (h : Elems K es) (i : Nat) : Elems K (es.take i) := fun e he => h e (List.mem_of_mem_take he)
theorem Elems.drop {K : Nat} {es : List (List Value)} (h : Elems K es) (i : Nat) : Elems K (es.drop i) := fun e he => h e (List.mem_of_mem_drop he)
theorem Elems.append {K : Nat} {a b : List (List Value)} (h : Elems K a) (k : Elems K b) : Elems K (a ++ b) := fun e he => by
  rcases List.mem_append.1 he with h1 | h1
  · exact h e h1
  · exact k e h1
theorem Elems.one {K : Nat} {es : List (List Value)} (h : Elems K es) : ∀ u ∈ es.flatten, u.oneCell' = true := fun u hu => by
  obtain ⟨e, he, hu⟩ := List.mem_flatten.1 hu
  exact (h e he).2 u hu
theorem Elems.flat_take {K : Nat} {es : List (List Value)} (h : Elems K es) (i : Nat) (hi : i ≤ es.length) : es.flatten.take (i * K) = (es.take i).flatten := by
  have e : es.flatten = (es.take i).flatten ++ (es.drop i).flatten := by rw [← List.flatten_append, List.take_append_drop]
  have hl : (es.take i).flatten.length = i * K := by rw [(h.take i).len, List.length_take, Nat.min_eq_left hi]
  rw [e, ← hl]
  exact List.take_left
theorem Elems.flat_drop {K : Nat} {es : List (List Value)} (h : Elems K es) (i : Nat) (hi : i ≤ es.length) : es.flatten.drop (i * K) = (es.drop i).flatten := by
  have e : es.flatten = (es.take i).flatten ++ (es.drop i).flatten := by rw [← List.flatten_append, List.take_append_drop]
  have hl : (es.take i).flatten.length = i * K := by rw [(h.take i).len, List.length_take, Nat.min_eq_left hi]
  rw [e, ← hl]
  exact List.drop_left
theorem Elems.get {K : Nat} {es : List (List Value)} (h : Elems K es) (hK : 0 < K) {i j : Nat} {e : List Value} (he : es[i]? = some e) (hj : j < K) : es.flatten[i * K + j]? = e[j]? := by
  have hi : i < es.length := (List.getElem?_eq_some_iff.1 he).1
  have h1 := h.flat_drop i (by omega)
  have h2 : es.drop i = e :: es.drop (i + 1) := by
    rw [List.drop_eq_getElem_cons hi, (List.getElem?_eq_some_iff.1 he).2]
  rw [h2, List.flatten_cons] at h1
  rw [← List.getElem?_drop, h1, List.getElem?_append_left (by rw [(h e (List.mem_of_getElem? he)).1]; exact hj)]

/-- The slice value v is a row of its own, with these elements. -/
def RowIs (w : World) (base : Nat) (E : TypeId) (K : Nat) (v : Value) (es : List (List Value)) : Prop := w.ownsRow base E K v es.length es.flatten ∧ Elems K es

theorem RowIs.kept {w w' : World} {base : Nat} {E : TypeId} {K : Nat} {v : Value} {es : List (List Value)} {row : Option Nat} (h : RowIs w base E K v es) (hg : w.grownBy w' row) (hne : v.ownBlock = none ∨ v.ownBlock ≠ row) : RowIs w' base E K v es :=
  ⟨h.1.kept hg hne, h.2⟩

theorem RowIs.parts {w : World} {base : Nat} {E : TypeId} {K : Nat} {v : Value} {es : List (List Value)} (h : RowIs w base E K v es) :
    (v = .slice none 0 0 ∧ es = []) ∨ ∃ g cap cur, v = .slice (some ⟨g, 0, none⟩) es.length cap ∧ base ≤ g ∧ w.heap[g]? = some (.cells cur E (0, 0)) ∧ es.length ≤ cap ∧ cap ≤ maxLen ∧ cur.size = cap * K ∧ cur.toList.take (es.length * K) = es.flatten := by
  rcases h.1.2 with ⟨h1, h2⟩ | ⟨g, cap, cur, h1, h2, h3, h4, h5, h6, h7⟩
  · exact .inl ⟨h1, List.eq_nil_of_length_eq_zero h2⟩
  · exact .inr ⟨g, cap, cur, h1, h2, h3, h4, h5, h6, h7⟩

theorem rowIs_mk {w : World} {base : Nat} {E : TypeId} {K : Nat} {es : List (List Value)} {g n cap : Nat} {cur : List Value} (hn : es.length = n) (hb : base ≤ g) (hg : w.heap[g]? = some (.cells cur.toArray E (0, 0))) (hc : n ≤ cap) (hm : cap ≤ maxLen) (hs : cur.length = cap * K) (he : Elems K es)
    (ht : cur.take (n * K) = es.flatten) : RowIs w base E K (.slice (some ⟨g, 0, none⟩) n cap) es := by
  subst hn
  exact ⟨⟨he.len, .inr ⟨g, cap, cur.toArray, rfl, hb, hg, hc, hm, by simpa using hs, by simpa using ht⟩⟩, he⟩

/-- A cell of an element, read. -/
theorem row_cell {w : World} {g : Nat} {E : TypeId} {K : Nat} {cur : Array Value} {es : List (List Value)} (he : Elems K es) (hg : w.heap[g]? = some (.cells cur E (0, 0))) (ht : cur.toList.take (es.length * K) = es.flatten)
    {i j : Nat} {e : List Value} {u : Value} (hi : es[i]? = some e) (hu : e[j]? = some u) : w.cell? ⟨g, i * K + j, none⟩ = some u := by
  have hik : i < es.length := (List.getElem?_eq_some_iff.1 hi).1
  have hel := (he e (List.mem_of_getElem? hi)).1
  have hj : j < K := by have := (List.getElem?_eq_some_iff.1 hu).1; omega
  have h1 := he.get (by omega) hi hj
  rw [hu, ← ht, List.getElem?_take] at h1
  split at h1
  · rename_i hlt
    simp only [World.cell?, hg]
    simpa using h1
  · cases h1

theorem row_frozen {w : World} {g : Nat} {E : TypeId} {cur : Array Value} (hg : w.heap[g]? = some (.cells cur E (0, 0))) (o : Nat) : w.frozen? ⟨g, o, none⟩ = false := by
  simp [World.frozen?, hg]

section
variable {P : Program} (w : World)

/-- The cells of a part of a row. -/
theorem part_cells {g : Nat} {E : TypeId} {cur : Array Value} (hg : w.heap[g]? = some (.cells cur E (0, 0))) {o n : Nat} (h : o + n ≤ cur.size) : ∀ j v, ((cur.toList.drop o).take n)[j]? = some v → w.cell? ⟨g, o + j, none⟩ = some v := by
  intro j v hj
  rw [List.getElem?_take] at hj
  split at hj
  · rw [List.getElem?_drop] at hj
    simp only [World.cell?, hg]
    simpa using hj
  · cases hj

/-- copy into a row: the cells cs, as they were read before. -/
theorem run_copy_rowK (dT sT ty elem : TypeId) (K g o dLen dCap : Nat) (a : Addr) (sLen sCap : Nat) (cur : List Value) (t : TypeId) (cs : List Value)
    (hu : P.underlying dT = some (.slice elem)) (hs : (P.info? elem).map (·.size) = some K)
    (hg : w.heap[g]? = some (.cells cur.toArray t (0, 0))) (hn : cs.length = Nat.min sLen dLen * K)
    (hsrc : ∀ j v, cs[j]? = some v → w.cell? (a.add j) = some v) (hfit : o + cs.length ≤ cur.length) (h1 : ∀ v ∈ cs, v.oneCell' = true) :
    (Builtin.copy_ #[dT, sT] ty #[.slice (some ⟨g, o, none⟩) dLen dCap, .slice (some a) sLen sCap]).run P w =
      .ok (goInt (Nat.min sLen dLen)) (w.setRow g (spl cur o cs).toArray) := by
  have hl := run_loadCells_list (P := P) w a cs hsrc
  have hst := run_storeCells_at P g o t cs 0 cur.toArray w hg (by simpa using hfit) h1
  cases hq : P.info? elem with
  | none => simp [hq] at hs
  | some i =>
    have hi : i.size = K := by simpa [hq] using hs
    subst hi
    simp only [Nat.add_zero, List.size_toArray] at hst
    have hcs : Nat.min sLen dLen * i.size = cs.length := hn.symm
    simp [Builtin.copy_, run_underlying hu, Builtin.lenOf, Builtin.firstCells, sizeOf, typeInfo, hq, hcs, hl, hst, spl]

/-- clear of a part of a row. -/
theorem run_clear_rowK (t e ty : TypeId) (K : Nat) (z : Value) (ht : P.underlying t = some (.slice e)) (hv : ∀ w, (zeroValue e).run P w = .ok z w) (hz : z.cells.size = K) (h1 : ∀ v ∈ z.cells.toList, v.oneCell' = true)
    (g o c : Nat) (cur : List Value) (hg : w.heap[g]? = some (.cells cur.toArray e (0, 0))) (hfit : o + K ≤ cur.length) :
    (Builtin.clear_ #[t] ty #[.slice (some ⟨g, o, none⟩) 1 c]).run P w = .ok (.tuple #[]) (w.setRow g (spl cur o z.cells.toList).toArray) := by
  have hzc : (Builtin.zeroCells z.cells 1).toList = z.cells.toList := by
    apply List.ext_getElem
    · simp [Builtin.zeroCells]
    · intro i h1 h2
      simp at h2
      simp [Builtin.zeroCells, Nat.mod_eq_of_lt h2, getElem!_pos z.cells i h2]
  have hl : z.cells.toList.length = K := by simpa using hz
  have hst := run_storeCells_at P g o e z.cells.toList 0 cur.toArray w hg (by simp; omega) h1
  simp only [Nat.add_zero] at hst
  have hst' : (storeCells ⟨g, o, none⟩ (Builtin.zeroCells z.cells 1).toList).run P w = .ok () (w.setRow g (spl cur o z.cells.toList).toArray) := by
    rw [hzc]; simpa [spl] using hst
  simp [Builtin.clear_, run_underlying ht, hv, hst']

end

theorem setRow_grown (w : World) (g : Nat) (cur : Array Value) : w.grownBy (w.setRow g cur) (some g) :=
  ⟨rfl, rfl, rfl, by simp, fun k _ hk => setRow_other w g k _ (fun e => hk (by rw [e]))⟩

theorem grownBy_drew (w : World) (row : Option Nat) : w.grownBy w.drew row := ⟨rfl, rfl, rfl, Nat.le_refl _, fun _ _ _ => rfl⟩
theorem grownBy_refl (w : World) (row : Option Nat) : w.grownBy w row := ⟨rfl, rfl, rfl, Nat.le_refl _, fun _ _ _ => rfl⟩
theorem grownBy_trans {a b c : World} {row : Option Nat} (h : a.grownBy b row) (k : b.grownBy c row) : a.grownBy c row :=
  ⟨k.os.trans h.os, k.tape.trans h.tape, k.output.trans h.output, Nat.le_trans h.size k.size, fun i hi hr => (k.block i (by have := h.size; omega) hr).trans (h.block i hi hr)⟩

/-- Written to one row only, laid since. -/
theorem grownBy_new {a b c : World} {g : Nat} {row : Option Nat} (h : a.grownBy b row) (k : b.grownBy c (some g)) (hg : a.heap.size ≤ g) : a.grownBy c row :=
  ⟨k.os.trans h.os, k.tape.trans h.tape, k.output.trans h.output, Nat.le_trans h.size k.size, fun i hi hr => (k.block i (by have := h.size; omega) (by intro e; cases e; omega)).trans (h.block i hi hr)⟩

/-- The operation copy where its run is known, and append likewise. -/
theorem wpList_append_run {P : Program} (w : World) {ops : Array Oper} {rest : List Oper} {o : Oper} {a : Act} {Q : Exit → Act → World → Prop} (hgd : o.guard = none) (d s : Operand) (t t' : TypeId)
    (ho : o.op = .call { callee := .builtin .append, args := #[d, s], argTypes := #[t, t'] }) (v u : Value) (hd : a.eval d = v) (hs : a.eval s = u) {v' : Value} {w' : World}
    (hr : (Builtin.append_ #[t, t'] o.type #[v, u]).run P w = .ok v' w') (h : wpList P ops Q rest (a.put o.dst v') w') : wpList P ops Q (o :: rest) a w :=
  wpList_plain hgd fun K hK => by
    unfold Oper.wp execOp
    simp only [ho, resolve, invoke, builtin, Sem.run_bind, Sem.run_pure, Result.andThen_ok, List.map_toArray, List.map_cons, List.map_nil, hd, hs, hr]
    exact hK _ _ h

theorem RowIs.lt {w : World} {base : Nat} {E : TypeId} {K : Nat} {v : Value} {es : List (List Value)} (h : RowIs w base E K v es) : ∀ k, v.ownBlock = some k → base ≤ k ∧ k < w.heap.size := h.1.lt

/-- One element more at the end of a row: the head stays, or is new. -/
theorem run_append_elem {P : Program} (w : World) (base K bytes vb : Nat) (t ty E : TypeId) (i : TypeInfo) (z : Value) (ht : P.underlying t = some (.slice E)) (hi : P.info? E = some i) (hz : i.zero = some z)
    (hsize : i.size = K) (hby : i.bytes = bytes) (hzs : z.cells.size = K)
    (v : Value) (es : List (List Value)) (x : List Value) (h : RowIs w base E K v es) (hx : x.length = K ∧ ∀ u ∈ x, u.oneCell' = true) (hv : w.heap[vb]? = some (.cells x.toArray E (0, 0)))
    (hn : es.length ≤ 1000000) (hb : bytes ≤ 1000) (hbase : base ≤ w.heap.size) :
    ∃ v' w', (Builtin.append_ #[t, t] ty #[v, .slice (some ⟨vb, 0, none⟩) 1 1]).run P w = .ok v' w' ∧ RowIs w' base E K v' (es ++ [x]) ∧ w.grownBy w' v.ownBlock ∧
      (v'.ownBlock = v.ownBlock ∨ ∃ r, v'.ownBlock = some r ∧ w.heap.size ≤ r) := by
  subst hsize
  subst hby
  have hsmall : (es.length + 1) * i.bytes ≤ 140737488355328 := by
    have := Nat.mul_le_mul (show es.length + 1 ≤ 1000001 by omega) hb
    omega
  have hcell : ∀ j u, x[j]? = some u → w.cell? ((⟨vb, 0, none⟩ : Addr).add j) = some u := fun j u hj => by
    rw [Addr.add_lit, Nat.zero_add]
    simp only [World.cell?, hv]
    simpa using hj
  have hes : Elems i.size (es ++ [x]) := h.2.append (fun e he => by simp at he; subst he; exact hx)
  have hlx : x.length = 1 * i.size := by rw [Nat.one_mul]; exact hx.1
  have hfl : (es ++ [x]).flatten = es.flatten ++ x := by simp
  have hll : (es ++ [x]).length = es.length + 1 := by simp
  have grown : ∀ (old : Nat), old < es.length + 1 → RowIs (w.drew.alloc (.cells (es.flatten.toArray ++ x.toArray ++ Builtin.zeroCells z.cells (grownCap w (es.length + 1) old E - (es.length + 1))) E)) base E i.size (.slice (some ⟨w.heap.size, 0, none⟩) (es.length + 1) (grownCap w (es.length + 1) old E)) (es ++ [x]) ∧
      w.grownBy (w.drew.alloc (.cells (es.flatten.toArray ++ x.toArray ++ Builtin.zeroCells z.cells (grownCap w (es.length + 1) old E - (es.length + 1))) E)) v.ownBlock := by
    intro old ho
    have hge := grownCap_ge w (es.length + 1) old E
    have hcm : grownCap w (es.length + 1) old E ≤ maxLen := grownCap_le_maxLen w (es.length + 1) old E (by unfold maxLen; omega)
    have hl2 := hes.len
    rw [hll, hfl, List.length_append] at hl2
    refine ⟨?_, ⟨rfl, rfl, rfl, by simp, fun k hk _ => Below.heap_alloc w.drew _ k hk⟩⟩
    refine rowIs_mk (cur := es.flatten ++ x ++ (Builtin.zeroCells z.cells (grownCap w (es.length + 1) old E - (es.length + 1))).toList) hll hbase ?_ hge hcm ?_ hes ?_
    · rw [show es.flatten.toArray ++ x.toArray ++ Builtin.zeroCells z.cells (grownCap w (es.length + 1) old E - (es.length + 1)) = (es.flatten ++ x ++ (Builtin.zeroCells z.cells (grownCap w (es.length + 1) old E - (es.length + 1))).toList).toArray from Array.ext' (by simp)]
      exact heap_alloc_new w.drew _
    · simp only [List.length_append, Array.length_toList, size_zeroCells, hzs]
      rw [hl2, ← Nat.add_mul]
      congr 1
      omega
    · rw [hfl, ← hl2, ← List.length_append]
      exact List.take_left
  rcases h.parts with ⟨rfl, rfl⟩ | ⟨g, cap, cur, rfl, hbg, hg, hnc, hcm, hcs, htake⟩
  · have hr := run_append_nil (P := P) w t ty E i z ht hi hz ⟨vb, 0, none⟩ 1 1 x hlx hcell (by omega) (by omega) (by have := hsmall; simp at this; omega)
    have hgr := grown 0 (by simp)
    simp only [List.length_nil, Nat.zero_add, List.flatten_nil, List.nil_append, Array.empty_append] at hgr hr ⊢
    exact ⟨_, _, hr, hgr.1, hgr.2, .inr ⟨_, rfl, Nat.le_refl _⟩⟩
  · by_cases hroom : es.length + 1 ≤ cap
    · have hfl0 : es.flatten.length = es.length * i.size := h.2.len
      have hmul : (es.length + 1) * i.size ≤ cap * i.size := Nat.mul_le_mul_right _ hroom
      rw [Nat.add_mul, Nat.one_mul] at hmul
      have hfit : es.length * i.size + x.length ≤ cur.size := by rw [hx.1, hcs]; exact hmul
      have hr := run_append_room (P := P) w t ty E i ht hi g es.length cap cur hg ⟨vb, 0, none⟩ 1 1 x hlx hcell hx.2 hroom hfit
      refine ⟨_, _, hr, rowIs_mk (cur := spl cur.toList (es.length * i.size) x) hll hbg (setRow_heap w g cur _ E _ hg) hroom hcm ?_ hes ?_, setRow_grown w g _, .inl rfl⟩
      · rw [spl_length (by simpa using hfit)]; simpa using hcs
      · rw [Nat.add_mul, Nat.one_mul, hfl]
        have := spl_take (cur := cur.toList) (o := es.length * i.size) (cs := x) (by simpa using hfit)
        rw [hx.1] at this
        rw [this, htake]
    · have holds : ∀ j u, es.flatten[j]? = some u → w.cell? ((⟨g, 0, none⟩ : Addr).add j) = some u := h.1.cells (g := g) rfl
      have hr := run_append_grow (P := P) w t ty E i z ht hi hz ⟨g, 0, none⟩ es.length cap es.flatten h.2.len holds ⟨vb, 0, none⟩ 1 1 x hlx hcell (by omega) (by omega) (growslice_fits (by omega) hsmall)
      have hgr := grown cap (by omega)
      exact ⟨_, _, hr, hgr.1, hgr.2, .inr ⟨_, rfl, Nat.le_refl _⟩⟩

theorem row_behind {K : Nat} {es : List (List Value)} {cur : List Value} (he : Elems K es) (ht : cur.take (es.length * K) = es.flatten) {i : Nat} (hi : i ≤ es.length) : (es.drop i).flatten = (cur.drop (i * K)).take ((es.length - i) * K) := by
  rw [← he.flat_drop i hi, ← ht, List.drop_take, ← Nat.sub_mul]
theorem row_ahead {K : Nat} {es : List (List Value)} {cur : List Value} (he : Elems K es) (ht : cur.take (es.length * K) = es.flatten) {i : Nat} (hi : i ≤ es.length) : (es.take i).flatten = cur.take (i * K) := by
  rw [← he.flat_take i hi, ← ht, List.take_take, Nat.min_eq_left (Nat.mul_le_mul_right _ hi)]
theorem Elems.insert {K : Nat} {es : List (List Value)} (he : Elems K es) {x : List Value} (hx : x.length = K ∧ ∀ u ∈ x, u.oneCell' = true) (i : Nat) : Elems K (es.take i ++ x :: es.drop i) := fun e h => by
  rcases List.mem_append.1 h with h1 | h1
  · exact he.take i e h1
  · rcases List.mem_cons.1 h1 with rfl | h1
    · exact hx
    · exact he.drop i e h1
theorem len_insert {α : Type} {es : List α} {x : α} {i : Nat} (hi : i ≤ es.length) : (es.take i ++ x :: es.drop i).length = es.length + 1 := by simp; omega

/-- .. and as one step of a region that draws. -/
theorem step_append_run {P : Program} {ops : Array Oper} {o : Oper} {a : Act} {w : World} {K : Act → World → Prop} {Q : Exit → Act → World → Prop} {E : Prop}
    (hg : o.guard = none) (d x : Operand) (dT sT : TypeId) (hop : o.op = Op.call { callee := Callee.builtin Builtin.append, args := #[d, x], argTypes := #[dT, sT] })
    (v u : Value) (hd : a.eval d = v) (hx : a.eval x = u) {v' : Value} {w' : World} (hr : (Builtin.append_ #[dT, sT] o.type #[v, u]).run P w = .ok v' w') (hK : K (a.put o.dst v') w') :
    if Region.wanted o (yielded ops a.tmps) = true then Oper.wp P o a w K Q else E := by
  have hw : Region.wanted o (yielded ops a.tmps) = true := by simp [Region.wanted, hg]
  rw [if_pos hw]
  unfold Oper.wp
  simp [execOp, hop, resolve, invoke, builtin, hd, hx, hr, Result.andThen]
  exact hK

/-- A pointer is itself. -/
theorem run_eql_ptr_same {P : Program} (w : World) {tp te : TypeId} (hp : P.underlying tp = some (.pointer te)) (hte : (P.info? te).isSome = true) (a : Addr) :
    (binOp .eql tp (.pointer (some a)) (.pointer (some a))).run P w = .ok (.bool true) w := by
  obtain ⟨j, hj⟩ := Option.isSome_iff_exists.1 hte
  have h : ∀ d : Nat, (Op.equalIn (d + 1) tp (.pointer (some a)) (.pointer (some a))).run P w = .ok true w := fun d => by
    by_cases hz : j.size = 0 <;> simp [Op.equalIn, run_underlying hp, sizeOf, typeInfo, hj, hz, run_sameAddr_same]
  simp only [binOp]
  simp [Op.equal, Op.maxDepth, h 9999]

end Go.Proofs.Ytahccgbmbnmcgaa
