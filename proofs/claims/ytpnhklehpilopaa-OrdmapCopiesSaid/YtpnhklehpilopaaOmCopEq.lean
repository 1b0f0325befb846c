/- maps.Equal on two Go maps that agree with one list; a Go map filled from a list. -/
import Derived.Test.YtpnhklehpilopaaOmFilled
import Derived.Test.YtpnhklehpilopaaOmStand
import Derived.Test.YtpnhklehpilopaaShelf
import Derived.Shelf.SlMaps.Equal
namespace Go.Proofs.Ytpnhklehpilopaa
open Go Go.RowKit Go.Maps

/-- Equality of what two integers read as. -/
def sameD : DataW Unit → DataW Unit → Bool
  | .lit (.int _ x), .lit (.int _ y) => x == y
  | _, _ => false

theorem neq_intC {e : TypeId} (he : Try.prog.underlying e = some (.int .i64)) (W : World) (x y : Value) (xd yd : DataW Unit) (xp yp : List MemPlace) (hx : plainElem Try.prog e x = some (xd, xp)) (hy : plainElem Try.prog e y = some (yd, yp)) :
    (binOp .neq e x y).run Try.prog W = .ok (.bool (!sameD xd yd)) W ∧ ∀ (a b : Operand), (eqGuard .neq e a b x y).run Try.prog W = .ok () W := by
  obtain ⟨a, rfl, h1, _⟩ := plainElem_int_inv he hx
  obtain ⟨b, rfl, h2, _⟩ := plainElem_int_inv he hy
  obtain rfl : xd = .lit (.int .i64 a) := by simpa using (congrArg Prod.fst h1)
  obtain rfl : yd = .lit (.int .i64 b) := by simpa using (congrArg Prod.fst h2)
  refine ⟨?_, fun _ _ => by rw [eqGuard_at_int]; rfl⟩
  simp [go_sem, sameD, binOp]
  rfl

/-- maps.Equal on two maps that are not nil. -/
theorem mapsEq_any (p1 p2 n1 n2 : Nat) (D1 D2 : DataW Unit) (w : World) (h1 : w.ownsMap Try.prog 3 (plainElem Try.prog 3) p1 n1 D1) (h2 : w.ownsMap Try.prog 3 (plainElem Try.prog 3) p2 n2 D2) :
    Calls Try.prog 38 #[.map (some p1), .map (some p2)] w fun e w' => e = .returned (.bool (Lib.equalFuncD sameD D1 D2)) ∧ w.grownBy w' none :=
  AnyEq.maps_Equal_opt Try.mapsEq lawInt (plainElem Try.prog 3) (plainElem Try.prog 3) sameD (some p1) (some p2) D1 D2 w (.inr ⟨p1, n1, rfl, h1⟩) (.inr ⟨p2, n2, rfl, h2⟩) (.int .i64 0) zeroInt (.lit (.int .i64 0)) [] (plainElem_int Try.underlying3 (by decide)) (neq_intC Try.underlying3)

/-- A map of integers to integers, entry by entry. -/
def Shp (D : DataW Unit) : Prop := ∃ es, D = .map es ∧ ∀ p ∈ es, ∃ k v, p = (kl k, dl v)

theorem Shp.put {D : DataW Unit} (h : Shp D) (k v : Int) : Shp (D.put (kl k) (dl v)) := by
  obtain ⟨es, rfl, he⟩ := h
  refine ⟨_, rfl, fun p hp => ?_⟩
  rcases List.mem_cons.1 ((WideShapes.insert_perm _ _).mem_iff.1 hp) with rfl | hp
  · exact ⟨k, v, rfl⟩
  · exact he p (List.mem_filter.1 hp).1

theorem eq_true {D1 D2 : DataW Unit} {l : List (Int × Int)} (h1 : Ag D1 l) (h2 : Ag D2 l) (hs : Shp D1) (ht : Tidy D1) : Lib.equalFuncD sameD D1 D2 = true := by
  unfold Lib.equalFuncD
  rw [decide_eq_true (by rw [h1.size, h2.size]), Bool.true_and]
  obtain ⟨es, rfl, he⟩ := hs
  obtain ⟨es', e, hp⟩ := ht
  injection e with e
  subst e
  refine List.all_eq_true.2 fun p hpm => ?_
  obtain ⟨k, v, rfl⟩ := he p hpm
  have hk : WideAt.IsKeyLit (kl k) := trivial
  have a1 := WideAt.atKey_mem (dl 0) hk hp hpm
  rw [h1.at' k] at a1
  have hh : Maps.has (DataW.map es) (kl k) = true := List.any_eq_true.2 ⟨_, hpm, WideAt.sameKey_self hk⟩
  rw [h1.has k] at hh
  have hh2 := (h2.has k).trans hh
  unfold Lib.goodD
  rw [hh2, atKey_indep hh2 .nil (dl 0), h2.at' k, a1]
  simp [sameD]

/-- The datum that comes of putting a list's pairs one by one. -/
def gotD (xs : List (Int × Int)) : DataW Unit := xs.foldl (fun D x => D.put (kl x.1) (dl x.2)) (.map [])

theorem gotD_snoc (xs : List (Int × Int)) (x : Int × Int) : gotD (xs ++ [x]) = (gotD xs).put (kl x.1) (dl x.2) := by
  unfold gotD; rw [List.foldl_append]; rfl

theorem set_last {l : List (Int × Int)} {k v : Int} (h : ∀ x ∈ l, x.1 < k) : kSet ltI l k v = l ++ [(k, v)] := by
  have hf : kHas l k = false := by
    cases hh : kHas l k with
    | false => rfl
    | true =>
      obtain ⟨x, hx, e⟩ := kHas_true.1 hh
      have := h x hx
      omega
  have hr : kRank ltI l k = l.length := by
    unfold kRank
    rw [List.countP_eq_length]
    intro x hx
    simpa [ltI] using h x hx
  unfold kSet
  rw [if_neg (by rw [hf]; decide), hr, List.take_length, List.drop_length]

theorem got_ag {l : List (Int × Int)} (hs : Srt ltI l) : ∀ j, j ≤ l.length → Ag (gotD (l.take j)) (l.take j) ∧ Tidy (gotD (l.take j)) ∧ Shp (gotD (l.take j))
  | 0, _ => by
    rw [List.take_zero]
    exact ⟨ag_nil, tidy_empty, [], rfl, fun p hp => by cases hp⟩
  | j + 1, hj => by
    obtain ⟨h1, h2, h3⟩ := got_ag hs j (by omega)
    have hx : l[j]? = some l[j] := List.getElem?_eq_getElem (by omega)
    rw [List.take_succ_eq_append_getElem (by omega), gotD_snoc]
    have hst : Srt ltI (l.take j) := List.Pairwise.sublist (List.take_sublist _ _) hs
    have hlt : ∀ x ∈ l.take j, x.1 < l[j].1 := fun x hx => by
      obtain ⟨i, hi, rfl⟩ := List.mem_iff_getElem.1 hx
      rw [List.length_take] at hi
      have := List.pairwise_iff_getElem.1 hs i j (by omega) (by omega) (by omega)
      rw [List.getElem_take]
      simpa [ltI] using this
    have := h1.put h2 hst (k := l[j].1) trivial l[j].2
    rw [set_last hlt] at this
    exact ⟨this, h2.put (k := kl l[j].1) (by exact trivial) _, h3.put _ _⟩

/-- What has been put from all of an ordered list is equal to what agrees with it. -/
theorem got_eq {l : List (Int × Int)} (hs : Srt ltI l) {D : DataW Unit} (h : Ag D l) : Lib.equalFuncD sameD (gotD l) D = true := by
  have := got_ag hs l.length (Nat.le_refl _)
  rw [List.take_length] at this
  exact eq_true this.1 h this.2.2 this.2.1
end Go.Proofs.Ytpnhklehpilopaa
