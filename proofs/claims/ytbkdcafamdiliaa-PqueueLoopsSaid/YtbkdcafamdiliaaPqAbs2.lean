/- What a change and a removal do to the items. Plain mathematics. -/
import Derived.Test.YtbkdcafamdiliaaPqAbs
namespace Go.Proofs.Ytbkdcafamdiliaa
section
variable {α : Type}

theorem mem_set_other {S : Nat} {l : List (Nat × α)} {T : Nat → Nat} (h : Pl S l T) {t k : Nat} {u : α} (hx : l[t]? = some (k, u)) (v : α) (y : Nat × α) : y ∈ l.set t (k, v) ↔ (y ∈ l ∧ y.1 ≠ k) ∨ y = (k, v) := by
  have hl := (List.getElem?_eq_some_iff.1 hx).1
  constructor
  · intro hy
    obtain ⟨i, hi⟩ := List.mem_iff_getElem?.1 hy
    by_cases e : t = i
    · subst e; rw [List.getElem?_set_self hl] at hi; cases hi; exact .inr rfl
    · rw [List.getElem?_set_ne e] at hi
      exact .inl ⟨List.mem_of_getElem? hi, fun e2 => e (h.inj hx hi (by simpa using e2.symm))⟩
  · rintro (⟨hy, hne⟩ | rfl)
    · obtain ⟨i, hi⟩ := List.mem_iff_getElem?.1 hy
      have : t ≠ i := fun e => by subst e; rw [hx] at hi; cases hi; exact hne rfl
      exact List.mem_of_getElem? (i := i) (by rw [List.getElem?_set_ne this]; exact hi)
    · exact List.mem_of_getElem? (i := t) (List.getElem?_set_self hl)

theorem mem_take_last {S : Nat} {l : List (Nat × α)} {T : Nat → Nat} (h : Pl S l T) {x : Nat × α} (hx : l[l.length - 1]? = some x) (y : Nat × α) : y ∈ l.take (l.length - 1) ↔ y ∈ l ∧ y.1 ≠ x.1 := by
  have hl := (List.getElem?_eq_some_iff.1 hx).1
  constructor
  · intro hy
    obtain ⟨i, hi⟩ := List.mem_iff_getElem?.1 hy
    rw [List.getElem?_take] at hi
    split at hi
    · exact ⟨List.mem_of_getElem? hi, fun e => by have := h.inj hi hx e; omega⟩
    · cases hi
  · rintro ⟨hy, hne⟩
    obtain ⟨i, hi⟩ := List.mem_iff_getElem?.1 hy
    have h2 := (List.getElem?_eq_some_iff.1 hi).1
    have : i ≠ l.length - 1 := fun e => by subst e; rw [hx] at hi; cases hi; exact hne rfl
    exact List.mem_of_getElem? (i := i) (by rw [List.getElem?_take, if_pos (by omega)]; exact hi)

theorem swp_take_last {ι : Type} {l : List ι} {t : Nat} {x y : ι} (hx : l[t]? = some x) (hy : l[l.length - 1]? = some y) : (swp l t (l.length - 1)).take (l.length - 1) = (l.set t y).take (l.length - 1) := by
  have h1 := (List.getElem?_eq_some_iff.1 hx).1
  apply List.ext_getElem?
  intro i
  rw [List.getElem?_take, List.getElem?_take]
  split
  · rw [swp_at hx hy, if_neg (by omega)]
    by_cases e : i = t
    · subst e; rw [if_pos rfl, List.getElem?_set_self h1]
    · rw [if_neg e, List.getElem?_set_ne (fun h => e h.symm)]
  · rfl

/-- The end taken away behind an exchange: a heap, but for the item that came from the end. -/
theorem Hp.drop {ι : Type} {lt : ι → ι → Bool} (O : KOrd lt) {l : List ι} (h : Hp lt l) {t : Nat} {x y : ι} (hx : l[t]? = some x) (hy : l[l.length - 1]? = some y) : HpW lt ((swp l t (l.length - 1)).take (l.length - 1)) t := by
  rw [swp_take_last hx hy]
  exact (h.other O t y).cut _
end
end Go.Proofs.Ytbkdcafamdiliaa
