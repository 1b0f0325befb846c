/- filled and slots. -/
import Derived.Test.YtejkbanecbjdoaaSsWorks
import Derived.OwnWalk
namespace Go.Proofs.Ytejkbanecbjdoaa
open Go Go.RowKit

/-- n booleans in a block of their own. -/
def rowB (n : Nat) (f : Nat → Bool) : Array Value := ((List.range n).map fun k => Value.bool (f k)).toArray

def BA (W : World) (b n : Nat) (f : Nat → Bool) : Prop := W.heap[b]? = some (.cells (rowB n f) 4 (0, 0))

theorem rowB_get (n : Nat) (f : Nat → Bool) (k : Nat) (h : k < n) : (rowB n f)[k]? = some (Value.bool (f k)) := by simp [rowB, h]

theorem rowB_set (n : Nat) (f : Nat → Bool) (k : Nat) (v : Bool) : (rowB n f).setIfInBounds k (Value.bool v) = rowB n (updB f k v) := by
  apply Array.ext'
  simp only [rowB, List.setIfInBounds_toArray]
  apply List.ext_getElem?
  intro i
  rw [List.getElem?_set]
  by_cases hi : i < n
  · by_cases h : k = i
    · subst h; simp [hi, updB]
    · simp [h, hi, updB, show ¬ i = k from fun e => h e.symm]
  · by_cases h : k = i
    · subst h; simp [hi]
    · simp [h, hi]

theorem BA.lt {W : World} {b n : Nat} {f : Nat → Bool} (h : BA W b n f) : b < W.heap.size := (Array.getElem?_eq_some_iff.1 h).1
theorem BA.cell {W : World} {b n : Nat} {f : Nat → Bool} (h : BA W b n f) {k : Nat} (hk : k < n) : W.cell? ⟨b, k, none⟩ = some (.bool (f k)) := by
  have := rowB_get n f k hk
  unfold BA at h
  simp only [World.cell?, h]
  exact this
theorem BA.frozen {W : World} {b n : Nat} {f : Nat → Bool} (h : BA W b n f) (k : Nat) : W.frozen? ⟨b, k, none⟩ = false := by
  unfold BA at h
  simp [World.frozen?, h]
theorem BA.set {W : World} {b n : Nat} {f : Nat → Bool} (h : BA W b n f) (k : Nat) (v : Bool) : BA (W.setCell ⟨b, k, none⟩ (.bool v)) b n (updB f k v) := by
  unfold BA at *
  rw [setCell_eq_setRow W b k _ _ (0, 0) _ h, ← rowB_set]
  exact setRow_heap W b _ _ _ _ h
theorem BA.same {W W' : World} {b n : Nat} {f : Nat → Bool} (h : BA W b n f) (hb : W'.heap[b]? = W.heap[b]?) : BA W' b n f := hb.trans h
theorem BA.below {W W' : World} {b n : Nat} {f : Nat → Bool} (h : BA W b n f) (hb : Below W.heap.size W W') : BA W' b n f := h.same (hb.block b h.lt)
theorem BA.other {W W' : World} {b b' n : Nat} {f : Nat → Bool} (h : BA W b n f) (ho : Only b' W W') (hne : b ≠ b') : BA W' b n f := h.same (ho.block b h.lt hne)

/-- A row that was just made. -/
theorem ba_made {W : World} {b n : Nat} (h : W.ownsRow b 4 1 (.slice (some ⟨b, 0, none⟩) n n) n (madeCells (Value.bool false).cells (n * 1)).toList) : BA W b n (fun _ => false) := by
  rcases h.2 with ⟨h1, h2⟩ | ⟨g, cap, cur, h1, h2, h3, h4, h5, h6, h7⟩
  · cases h1
  · injection h1 with e1 e2 e3
    injection e1 with e1
    injection e1 with e1
    subst e1; subst e3
    unfold BA
    rw [h3]
    congr 2
    apply Array.ext'
    rw [List.take_of_length_le (by simp; omega)] at h7
    rw [h7]
    apply List.ext_getElem
    · simp [rowB, madeCells]
    · intro i h1 h2
      simp [rowB] at h2
      simp [rowB, madeCells]
      show (#[Value.bool false])[i % 1]! = _
      simp [Nat.mod_one]

theorem infoB : (Try.prog.info? 4).map (fun i => (i.zero, i.size, i.bytes)) = some (some (.bool false), 1, 1) := by kernel_rfl
theorem infoW : (Try.prog.info? 3).map (fun i => (i.zero, i.size, i.bytes)) = some (some (.int .i64 0), 1, 8) := by kernel_rfl
theorem info_partsS {o : Option TypeInfo} {v : Value} {s b : Nat} (h : o.map (fun i => (i.zero, i.size, i.bytes)) = some (some v, s, b)) : ∃ i, o = some i ∧ i.zero = some v ∧ i.size = s ∧ i.bytes = b := by
  cases o with
  | none => cases h
  | some i => simp at h; exact ⟨i, rfl, h.1, h.2.1, h.2.2⟩

theorem rd_of_row {W : World} {base : Nat} {p : Option Addr} {n c : Nat} {zs : List Nat} (h : W.ownsRow base 3 1 (.slice p n c) n (zs.map fun x => Value.int .i64 (x : Nat))) : RdN W p zs := fun j x hx => by
  have hj : (zs.map fun x => Value.int .i64 ((x : Nat) : Int))[j]? = some (Value.int .i64 (x : Nat)) := by rw [List.getElem?_map, hx]; rfl
  rcases h.2 with ⟨h1, h2⟩ | ⟨g, cap, cur, h1, h2, h3, h4⟩
  · cases h1
    have hz : zs = [] := by have := h.1; simpa using this
    rw [hz] at hx; simp at hx
  · injection h1 with e1 e2 e3
    refine ⟨g, 0, e1, (Array.getElem?_eq_some_iff.1 h3).1, ?_⟩
    have := h.cells (g := g) (by rw [e1]; rfl) j _ hj
    rw [Nat.zero_add]; rwa [Addr.add_lit, Nat.zero_add] at this

set_option maxHeartbeats 2000000 in
set_option maxRecDepth 100000 in
theorem slots_any (b n : Nat) (f : Nat → Bool) (hn : n ≤ 34) (W : World) (hB : BA W b n f) :
    Calls Try.prog 38 #[.slice (some ⟨b, 0, none⟩) n n] W fun e w' => (∃ p c, e = .returned (.slice p (els n f).length c) ∧ RdN w' p (els n f) ∧ ∀ a, p = some a → W.heap.size ≤ a.block) ∧ Below W.heap.size W w' := by
  obtain ⟨i0, hi, hz0, hz1, hz2⟩ := info_partsS infoW
  have HBA := Lib.hid hB
  clear hB
  go_enter Try.func38, Try.ntmps38
  go_wp2_with fail
  go_loopw [3, 4] (fun v i wr => ∃ k : Nat, k ≤ n ∧ i = .int .i64 k ∧ wr.ownsRow W.heap.size 3 1 v (els k f).length ((els k f).map fun x => Value.int .i64 (x : Nat)) ∧ Hid (Below W.heap.size W wr))
    (fun _ i _ => n - (intOf i).toNat)
  case atStart => exact ⟨0, Nat.zero_le _, rfl, by simpa [els] using World.ownsRow_nil _ _ _ _, Below.refl _ _⟩
  case round =>
    obtain ⟨k, hk, rfl, hown, HB⟩ := hrel
    by_cases hlt : k < n
    · have hcell := (HBA.out.below HB.out).cell hlt
      have hk0 : (0 : Int) ≤ (k : Int) := by omega
      have hk1 : (k : Int) < (n : Int) := by omega
      cases hf : f k with
      | true =>
        rw [hf] at hcell
        have hes : els (k + 1) f = els k f ++ [k] := by rw [els_succ, if_pos hf]
        have hel := els_length_le k f
        have HES := Lib.hid hes
        generalize els k f = l at *
        clear hes hf
        go_wp2_with (at_builtin; refine wpList_append_own _ rfl _ _ 24 rfl W.heap.size 3 i0 (.int .i64 0) 1 8 Try.underlying24 hi hz0 hz1 hz2 rfl (by decide) _ _ _ rfl (hown.alloc _) ⟨wr.heap.size, 0, none⟩ 1 1 [.int .i64 (k : Nat)] rfl rfl (by intro t u ht; match t, ht with | 0, ht => simp at ht; subst ht; simp [Addr.add]) (by intro u hu; simp at hu; subst hu; rfl) (by unfold maxLen; omega) (by omega) (by have := HB.out.size; simp; omega) ?_; intro v' w2 hown' hgrow _)
        have hrow : ∀ q, Value.ownBlock u3 = some q → W.heap.size ≤ q := fun q hq => (hown.lt q hq).1
        have HB2 := Lib.hid ((HB.out.alloc HB.out.size _).grown hgrow (by have := HB.out.size; simp; omega) hrow)
        have HO := Lib.hid hown'
        clear hown' hgrow hrow hown
        go_wp2_with fail
        go_roundw
        case rel => exact ⟨k + 1, by omega, by simp, by rw [HES.out, List.map_append, List.length_append]; exact HO.out, HB2⟩
        case measure => simp [intOf]; omega
      | false =>
        rw [hf] at hcell
        have hes : els (k + 1) f = els k f := by rw [els_succ, if_neg (by simp [hf]), List.append_nil]
        rw [← hes] at hown
        have HO := Lib.hid hown
        clear hes hf hown
        go_wp2_with fail
        go_roundw
        case rel => exact ⟨k + 1, by omega, by simp, HO.out, HB⟩
        case measure => simp [intOf]; omega
    · obtain rfl : k = n := by omega
      obtain ⟨p, c, hv, -, -⟩ : ∃ p c, u3 = .slice p (els k f).length c ∧ True ∧ True := by
        rcases hown.2 with ⟨h1, h2⟩ | ⟨g, cap, cur, h1, h2, h3, h4⟩
        · have : els k f = [] := by simpa using h2
          rw [this]; exact ⟨none, 0, h1, trivial, trivial⟩
        · exact ⟨_, _, h1, trivial, trivial⟩
      subst hv
      have HO := Lib.hid hown
      clear hown
      go_wp2_with fail
      go_ret
      exact ⟨⟨p, c, rfl, rd_of_row HO.out, fun a ha => (HO.out.lt a.block (by rw [ha]; rfl)).1⟩, HB.out⟩

/-- From p on there are these bytes, side by side. -/
def RdU (W : World) (p : Option Addr) (xs : List Nat) : Prop := ∀ j x, xs[j]? = some x → x < 256 ∧ ∃ g o, p = some ⟨g, o, none⟩ ∧ g < W.heap.size ∧ W.cell? ⟨g, o + j, none⟩ = some (.int .u8 (x : Nat))

theorem RdU.below {W W' : World} {p : Option Addr} {zs : List Nat} (h : RdU W p zs) (hb : Below W.heap.size W W') : RdU W' p zs := fun j x hx => by
  obtain ⟨h0, g, o, h1, h2, h3⟩ := h j x hx
  exact ⟨h0, g, o, h1, Nat.lt_of_lt_of_le h2 hb.size, (hb.cell (p := ⟨g, o + j, none⟩) h2).trans h3⟩

/-- What is in the set behind these numbers. -/
def fillF (n : Nat) (xs : List Nat) : Nat → Bool := xs.foldl (fun f x => updB f (x % 128 % n) (decide (x < 128))) (fun _ => false)

theorem fillF_take {n k x : Nat} {xs : List Nat} (h : xs[k]? = some x) : fillF n (xs.take (k + 1)) = updB (fillF n (xs.take k)) (x % 128 % n) (decide (x < 128)) := by
  unfold fillF
  rw [takeSucc h, List.foldl_append]
  rfl

set_option maxHeartbeats 4000000 in
set_option maxRecDepth 100000 in
theorem filled_any (size : Nat) (hsz : size < 256) (p : Option Addr) (len c : Nat) (xs : List Nat) (hlen : xs.length = len) (hc63 : len ≤ 1000000) (W : World) (hR : RdU W p xs) :
    Calls Try.prog 37 #[.int .u8 (size : Nat), .slice p len c] W fun e w' => e = .returned (.tuple #[.pointer (some ⟨W.heap.size, 0, none⟩), .slice (some ⟨W.heap.size + 1, 0, none⟩) (1 + size % 34) (1 + size % 34)]) ∧
      SetAt w' W.heap.size (1 + size % 34) (fillF (1 + size % 34) xs) ∧ BA w' (W.heap.size + 1) (1 + size % 34) (fillF (1 + size % 34) xs) ∧ Below W.heap.size W w' := by
  obtain ⟨n, hn⟩ : ∃ n, n = 1 + size % 34 := ⟨_, rfl⟩
  have hn1 : 1 ≤ n := by omega
  have hn34 : n ≤ 34 := by omega
  have hnI : 1 + ((size : Int) % 34) = (n : Int) := by omega
  have hnew := newS W n hn1 hn34
  have HR := Lib.hid hR
  have HLEN := Lib.hid hlen
  rw [← hn]
  obtain ⟨i0, hi, hz0, hz1, hz2⟩ := info_partsS infoB
  have hs0 : (0 : Int) ≤ (size : Int) := by omega
  have hs1 : (size : Int) < 256 := by omega
  clear hR hlen hn
  go_enter Try.func37, Try.ntmps37
  go_wp2_with fail
  refine hnew.mono ?_
  rintro e w1 ⟨rfl, hq, hb, hs⟩
  go_wp2_with (at_make; refine wpList_make_full _ rfl _ _ 53 rfl w1.heap.size 4 i0 (.bool false) 1 Try.underlying53 hi hz0 hz1 _ _ _ _ n rfl rfl rfl rfl (by rw [hz2]; omega) (by unfold maxLen; omega) (Nat.le_refl _) ?_; intro w2 hown hg)
  have hq2 : SetAt w2 W.heap.size n (fun _ => false) := hq.same (hg.block _ hq.lt (by simp))
  have hba : BA w2 (W.heap.size + 1) n (fun _ => false) := by rw [← hs]; exact ba_made hown
  have hb2 : Below W.heap.size W w2 := hb.grown hg (by omega) (fun r h => by cases h)
  have H0 := Lib.hid (And.intro hq2 (And.intro hba hb2))
  clear hq hb hs hown hg hq2 hba hb2 hi hz0 hz1 hz2 hnew
  go_loopw [10] (fun i wr => ∃ k : Nat, k ≤ len ∧ i = .int .i64 k ∧ Hid (SetAt wr W.heap.size n (fillF n (xs.take k)) ∧ BA wr (W.heap.size + 1) n (fillF n (xs.take k)) ∧ Below W.heap.size W wr)) (fun i _ => len - (intOf i).toNat)
  case atStart => exact ⟨0, Nat.zero_le _, rfl, H0⟩
  case round =>
    obtain ⟨k, hk, rfl, HI⟩ := hrel
    by_cases hlt : k < len
    · obtain ⟨x, hx⟩ : ∃ x, xs[k]? = some x := ⟨_, List.getElem?_eq_getElem (by rw [HLEN.out]; exact hlt)⟩
      obtain ⟨hx256, g, o, rfl, hg, hc0⟩ := HR.out k x hx
      have hcell := (HI.out.2.2.cell (p := ⟨g, o + k, none⟩) hg).trans hc0
      have HC0 := Lib.hid hc0
      clear hc0
      have hf := fillF_take (n := n) hx
      obtain ⟨z, hz⟩ : ∃ z, z = x % 128 % n := ⟨_, rfl⟩
      have hzn : z < n := by rw [hz]; exact Nat.mod_lt _ (by omega)
      have hzE : ((x : Int) % 128) % (n : Int) = (z : Int) := by rw [hz, Int.natCast_emod, Int.natCast_emod]; rfl
      have hzI : Int.tmod ((x : Int) % 128) (n : Int) = (z : Int) := by rw [Int.tmod_eq_emod_of_nonneg (by omega)]; exact hzE
      rw [← hz] at hf
      have hx0 : (0 : Int) ≤ (x : Int) := by omega
      have hx1 : (x : Int) < 256 := by omega
      have h0 : (0 : Int) ≤ (k : Int) := by omega
      have hk1 : (k : Int) < (len : Int) := by omega
      have hz0 : (0 : Int) ≤ (z : Int) := by omega
      have hz1 : (z : Int) < (n : Int) := by omega
      have hne : ¬ (n : Int) = 0 := by omega
      have HF := Lib.hid hf
      have hadd := addS HI.out.1 z hzn
      have hrem := removeS HI.out.1 z hzn
      have HA := Lib.hid hadd
      have HM := Lib.hid hrem
      clear hadd hrem hf hx hz
      by_cases hlo : x < 128
      · have hd : decide ((x : Int) < 128) = true := by simp; omega
        have hdN : decide (x < 128) = true := by simpa using hlo
        rw [hdN] at HF
        clear hdN
        go_wp2_with fail
        refine HA.out.mono ?_
        rintro e W2 ⟨rfl, hS2, ho2⟩
        have hb2 : Below W.heap.size W W2 := HI.out.2.2.trans (ho2.below (Nat.le_refl _) HI.out.2.2.size)
        have hB2 := HI.out.2.1.other ho2 (by omega)
        have hc2 := (hb2.cell (p := ⟨g, o + k, none⟩) hg).trans HC0.out
        have hz2 := hB2.cell hzn
        have hfz2 := hB2.frozen z
        have hB3 := hB2.set z true
        rw [← HF.out] at hB3 hS2
        have hS3 : SetAt (W2.setCell ⟨W.heap.size + 1, z, none⟩ (.bool true)) W.heap.size n _ := hS2.same (Below.heap_setCell _ _ _ _ (by show W.heap.size ≠ W.heap.size + 1; omega))
        have HN := Lib.hid (And.intro hS3 (And.intro hB3 (hb2.setCell (p := ⟨W.heap.size + 1, z, none⟩) (by show W.heap.size ≤ W.heap.size + 1; omega) (.bool true))))
        clear hS2 ho2 hb2 hB2 hB3 hS3
        go_wp2_with fail
        go_roundw
        case rel => exact ⟨k + 1, by omega, by simp, HN⟩
        case measure => simp [intOf]; omega
      · have hd : decide ((x : Int) < 128) = false := by simp; omega
        have hdN : decide (x < 128) = false := by simpa using hlo
        rw [hdN] at HF
        clear hdN
        go_wp2_with fail
        refine HM.out.mono ?_
        rintro e W2 ⟨rfl, hS2, ho2⟩
        have hb2 : Below W.heap.size W W2 := HI.out.2.2.trans (ho2.below (Nat.le_refl _) HI.out.2.2.size)
        have hB2 := HI.out.2.1.other ho2 (by omega)
        have hc2 := (hb2.cell (p := ⟨g, o + k, none⟩) hg).trans HC0.out
        have hz2 := hB2.cell hzn
        have hfz2 := hB2.frozen z
        have hB3 := hB2.set z false
        rw [← HF.out] at hB3 hS2
        have hS3 : SetAt (W2.setCell ⟨W.heap.size + 1, z, none⟩ (.bool false)) W.heap.size n _ := hS2.same (Below.heap_setCell _ _ _ _ (by show W.heap.size ≠ W.heap.size + 1; omega))
        have HN := Lib.hid (And.intro hS3 (And.intro hB3 (hb2.setCell (p := ⟨W.heap.size + 1, z, none⟩) (by show W.heap.size ≤ W.heap.size + 1; omega) (.bool false))))
        clear hS2 ho2 hb2 hB2 hB3 hS3
        go_wp2_with fail
        go_roundw
        case rel => exact ⟨k + 1, by omega, by simp, HN⟩
        case measure => simp [intOf]; omega
    · obtain rfl : k = len := by omega
      have HI2 := HI.out
      rw [List.take_of_length_le (by rw [HLEN.out]; exact Nat.le_refl _)] at HI2
      have HI3 := Lib.hid HI2
      clear HI2 HI
      go_wp2_with fail
      go_ret2
      exact ⟨rfl, HI3.out⟩
end Go.Proofs.Ytejkbanecbjdoaa
