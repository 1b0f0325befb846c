/- What stands while the laws on a map from integers to integers go on; a row of integers read, searched, compared. -/
import Derived.Test.YtpnhklehpilopaaOmAllC
import Derived.Test.YtpnhklehpilopaaOmAgree
import Derived.Test.YtpnhklehpilopaaOmFilled
import Derived.Test.YtpnhklehpilopaaShelf
import Derived.RangeFuncBox
import Derived.Maps.OwnIn
namespace Go.Proofs.Ytpnhklehpilopaa
open Go Go.RowKit Go.Maps

/-- At p these integers lie, one behind the other. -/
def Reads (W : World) (p : Option Addr) (zs : List Int) : Prop := ∀ j x, zs[j]? = some x → ∃ g o, p = some ⟨g, o, none⟩ ∧ W.cell? ⟨g, o + j, none⟩ = some (.int .i64 x)

theorem Reads.below {W W' : World} {p : Option Addr} {zs : List Int} (h : Reads W p zs) (hb : Below W.heap.size W W') : Reads W' p zs := fun j x hx => by
  obtain ⟨g, o, hp, hc⟩ := h j x hx
  exact ⟨g, o, hp, (hb.cell (World.block_lt_of_cell? _ _ hc)).trans hc⟩

theorem Reads.nil (W : World) (p : Option Addr) : Reads W p [] := fun j x h => by simp at h

theorem reads_of_row {W : World} {base : Nat} {p : Option Addr} {n c : Nat} {zs : List Int} (h : W.ownsRow base 3 1 (.slice p n c) n (zs.map fun x => Value.int .i64 x)) : Reads W p zs := fun j x hx => by
  rcases h.2 with ⟨h1, h2⟩ | ⟨g, cap, cur, h1, h2, h3, h4, h5, h6⟩
  · have := h.1
    rw [h2] at this
    have : zs = [] := by simpa using this
    subst this
    simp at hx
  · injection h1 with e1 e2 e3
    refine ⟨g, 0, e1, ?_⟩
    have := h.cells (g := g) (by rw [e1]; rfl) j (.int .i64 x) (by rw [List.getElem?_map, hx]; rfl)
    rwa [Addr.add_lit] at this

theorem Reads.whole {W : World} {p : Option Addr} {z : Int} {zs : List Int} (h : Reads W p (z :: zs)) : ∃ g o, p = some ⟨g, o, none⟩ ∧ ∀ j, j < (z :: zs).length → W.cell? ⟨g, o + j, none⟩ = some (.int .i64 ((z :: zs).getD j 0)) := by
  obtain ⟨g, o, rfl, -⟩ := h 0 z rfl
  refine ⟨g, o, rfl, fun j hj => ?_⟩
  obtain ⟨g', o', e, hc⟩ := h j _ (List.getElem?_eq_getElem hj)
  injection e with e
  injection e with e1 e2
  subst e1; subst e2
  rw [hc, List.getD_eq_getElem?_getD, List.getElem?_eq_getElem hj]
  rfl

/-- Two rows of integers compared. -/
theorem Reads.equal {W : World} {p q : Option Addr} {n c m d : Nat} {xs ys : List Int} (hx : Reads W p xs) (hy : Reads W q ys) (hxl : xs.length = n) (hyl : ys.length = m) (hn : n ≤ 1000000) (hm : m ≤ 1000000) :
    Calls Try.prog 30 #[.slice p n c, .slice q m d] W fun e w' => e = .returned (.bool (xs == ys)) ∧ ∃ k, w' = W.drewN k := by
  by_cases hnm : n = m
  · subst hnm
    cases xs with
    | nil =>
      obtain rfl : n = 0 := by simpa using hxl.symm
      obtain rfl : ys = [] := List.eq_nil_of_length_eq_zero hyl
      exact (Try.slices_Equal_int_empty p q c 0 d W (by omega)).mono fun e w' ⟨he, hw⟩ => ⟨he, 0, hw⟩
    | cons x xs =>
      cases ys with
      | nil => simp at hyl; subst hyl; simp at hxl
      | cons y ys =>
        obtain ⟨g, o, rfl, h1⟩ := hx.whole
        obtain ⟨g', o', rfl, h2⟩ := hy.whole
        refine (Try.slices_Equal_int g o n c g' o' n d (x :: xs) (y :: ys) W (by omega) (by omega) (by omega) (by omega) h1 h2).mono fun e w' ⟨he, hw⟩ => ⟨?_, hw⟩
        rwa [List.take_of_length_le (by omega), List.take_of_length_le (by omega)] at he
  · refine (Try.slices_Equal_int_lens p q n c m d W hnm).mono fun e w' ⟨he, hw⟩ => ⟨?_, 0, hw⟩
    rw [he]
    have : (xs == ys) = false := by
      rw [beq_eq_false_iff_ne]
      rintro rfl
      exact hnm (hxl.symm.trans hyl)
    rw [this]

theorem keys_sorted {l : List (Int × Int)} (h : Srt ltI l) : (l.map (·.1)).Pairwise (· ≤ ·) := by
  rw [List.pairwise_map]
  exact h.imp fun h => by simp [ltI] at h; omega
theorem keys_count (l : List (Int × Int)) (k : Int) : (l.map (·.1)).countP (· < k) = kRank ltI l k := by
  rw [List.countP_map]; rfl
theorem keys_has (l : List (Int × Int)) (k : Int) : (l.map (·.1)).contains k = kHas l k := by
  unfold kHas
  induction l with
  | nil => rfl
  | cons a t ih =>
    simp only [List.map_cons, List.contains_cons, List.any_cons, ih]
    congr 1
    by_cases h : k = a.1
    · simp [h]
    · have : ¬ a.1 = k := fun e => h e.symm
      simp [h, this]

/-- The ordered map at block b, the Go map gb in the box wb, the sorted keys in the box kb, the result in the box rb. -/
structure Stand (W : World) (rb b gb wb kb : Nat) (p : Option Addr) (c : Nat) (l : List (Int × Int)) (D : DataW Unit) (kp : Option Addr) (kc : Nat) : Prop where
  res : Boxed W rb 4 (.bool false)
  map : MapC W b b p c l
  own : W.ownsMap Try.prog 3 (plainElem Try.prog 3) gb 100 D
  wbox : Boxed W wb 47 (.map (some gb))
  kbox : Boxed W kb 53 (.slice kp l.length kc)
  keys : Reads W kp (l.map (·.1))

theorem boxed_below {W W' : World} {B : Nat} {t : TypeId} {v : Value} (h : Boxed W B t v) (hb : Below W.heap.size W W') : Boxed W' B t v := (hb.block _ h.lt).trans h

theorem Stand.below {W W' : World} {rb b gb wb kb : Nat} {p : Option Addr} {c : Nat} {l : List (Int × Int)} {D : DataW Unit} {kp : Option Addr} {kc : Nat} (h : Stand W rb b gb wb kb p c l D kp kc) (hb : Below W.heap.size W W') : Stand W' rb b gb wb kb p c l D kp kc :=
  ⟨boxed_below h.res hb, h.map.below hb, ownsMap_same h.own (hb.block _ (ownsMap_lt h.own)), boxed_below h.wbox hb, boxed_below h.kbox hb, h.keys.below hb⟩

/-- A key looked up in the Go map. -/
theorem look_own {W : World} {gb nn : Nat} {l : List (Int × Int)} {D : DataW Unit} (h : W.ownsMap Try.prog 3 (plainElem Try.prog 3) gb nn D) (hag : Ag D l) (k : Int) (h0 : -32768 ≤ k) (h1 : k ≤ 32767) :
    (Instr.lookup 47 (.map (some gb)) (.int .i64 k) false).run Try.prog W = .ok (.int .i64 ((kGet l k).getD 0)) W := by
  obtain ⟨cv, hlook, hat, -⟩ := h.lookup_int lawInt Try.underlying47 Try.underlying3 (zeroInt _) (keyOf_int_mk Try.underlying3 (wf_16 h0 h1))
  have := hag.at' k
  rw [hlook, ← dl_inj (hat.symm.trans this)]

/-- The pair at an index; the last one beyond the end. -/
def pickI (zs : List (Int × Int)) (i : Nat) : Int × Int := zs.getD (min i (zs.length - 1)) (0, 0)
theorem pickI_at {zs : List (Int × Int)} {j : Nat} {x : Int × Int} (h : zs[j]? = some x) : pickI zs j = x := by
  have hj := (List.getElem?_eq_some_iff.1 h).1
  unfold pickI
  rw [Nat.min_eq_left (by omega), List.getD_eq_getElem?_getD, h]
  rfl
theorem pickI_mem {zs : List (Int × Int)} (h : 0 < zs.length) (i : Nat) : pickI zs i ∈ zs := by
  unfold pickI
  rw [List.getD_eq_getElem?_getD, List.getElem?_eq_getElem (by omega)]
  exact List.getElem_mem _
theorem pickI_map (zs : List (Int × Int)) : (List.range zs.length).map (fun i => Value.int .i64 (pickI zs i).1) = (zs.map (·.1)).map fun x => Value.int .i64 x := by
  apply List.ext_getElem?
  intro j
  rw [List.getElem?_map, List.getElem?_map, List.getElem?_map]
  by_cases hj : j < zs.length
  · rw [List.getElem?_range hj, List.getElem?_eq_getElem hj]
    simp only [Option.map_some]
    rw [pickI_at (List.getElem?_eq_getElem hj)]
  · rw [List.getElem?_eq_none_iff.2 (by simpa using hj), List.getElem?_eq_none_iff.2 (by omega)]
    rfl
theorem ownsRow_parts {w : World} {base : Nat} {e : TypeId} {v : Value} {n : Nat} {xs : List Value} (h : w.ownsRow base e 1 v n xs) : ∃ p c, v = .slice p n c ∧ n ≤ c ∧ c ≤ 9223372036854775807 ∧ ((p = none ∧ c = 0) ∨ ∃ g, p = some ⟨g, 0, none⟩) := by
  rcases h.2 with ⟨h1, h2⟩ | ⟨g, cap, cur, h1, h2, h3, h4, h5, h6⟩
  · exact ⟨none, 0, by rw [h1, h2], by omega, by omega, .inl ⟨rfl, rfl⟩⟩
  · exact ⟨_, cap, h1, h4, by unfold maxLen at h5; omega, .inr ⟨g, rfl⟩⟩
theorem Reads.drop {W : World} {g o : Nat} {zs : List Int} (h : Reads W (some ⟨g, o, none⟩) zs) (r o' : Nat) (ho : o' = o + r) : Reads W (some ⟨g, o', none⟩) (zs.drop r) := fun j x hx => by
  rw [List.getElem?_drop] at hx
  obtain ⟨g', o'', e, hc⟩ := h _ _ hx
  injection e with e
  injection e with e1 e2
  subst e1; subst e2; subst ho
  exact ⟨g, _, rfl, by rw [Nat.add_assoc]; exact hc⟩

theorem Reads.drewN {W : World} {p : Option Addr} {zs : List Int} (h : Reads W p zs) (m : Nat) : Reads (W.drewN m) p zs := h
/-- Two rows with the same integers compared. -/
theorem Reads.same {W : World} {p q : Option Addr} {n c m d : Nat} {xs : List Int} (hx : Reads W p xs) (hy : Reads W q xs) (hxl : xs.length = n) (hyl : xs.length = m) (hn : n ≤ 1000000) (hm : m ≤ 1000000) :
    Calls Try.prog 30 #[.slice p n c, .slice q m d] W fun e w' => e = .returned (.bool true) ∧ ∃ k, w' = W.drewN k := by
  have := hx.equal (c := c) (d := d) hy hxl hyl hn hm
  rwa [beq_self_eq_true] at this
end Go.Proofs.Ytpnhklehpilopaa
