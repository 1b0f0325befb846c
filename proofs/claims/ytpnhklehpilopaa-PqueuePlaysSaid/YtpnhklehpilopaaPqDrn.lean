/- The order in which the ids of a queue come out. Plain mathematics. -/
import Derived.Test.YtpnhklehpilopaaPqHI
namespace Go.Proofs.Ytpnhklehpilopaa
section
variable {α : Type}

/-- l has the ids of m in the order in which they come out. -/
def Drn (lt : α → α → Bool) : (Nat → Option α) → List (Nat × α) → Prop
  | m, [] => ∀ k, m k = none
  | m, x :: l => (m x.1 = some x.2 ∧ ∀ k v, m k = some v → befQ lt (k, v) x = false) ∧ Drn lt (mSet m x.1 none) l

theorem first_ex {lt : α → α → Bool} (O : KOrd lt) (m : Nat → Option α) : ∀ S : Nat, (∃ x, m x.1 = some x.2 ∧ ∀ k v, k < S → m k = some v → befQ lt (k, v) x = false) ∨ ∀ k, k < S → m k = none := by
  intro S
  induction S with
  | zero => exact .inr (fun k hk => by omega)
  | succ S ih =>
    cases hm : m S with
    | none =>
      rcases ih with ⟨x, hx, hall⟩ | hall
      · refine .inl ⟨x, hx, fun k v hk hkv => ?_⟩
        by_cases e : k = S
        · subst e; rw [hm] at hkv; cases hkv
        · exact hall k v (by omega) hkv
      · refine .inr fun k hk => ?_
        by_cases e : k = S
        · subst e; exact hm
        · exact hall k (by omega)
    | some u =>
      rcases ih with ⟨x, hx, hall⟩ | hall
      · cases hb : befQ lt (S, u) x with
        | false =>
          refine .inl ⟨x, hx, fun k v hk hkv => ?_⟩
          by_cases e : k = S
          · subst e; rw [hm] at hkv; cases hkv; exact hb
          · exact hall k v (by omega) hkv
        | true =>
          refine .inl ⟨(S, u), hm, fun k v hk hkv => ?_⟩
          by_cases e : k = S
          · subst e; rw [hm] at hkv; cases hkv; exact (befQ_ord O).irr _
          · cases hc : befQ lt (k, v) (S, u) with
            | false => rfl
            | true =>
              have := (befQ_ord O).tra _ _ _ hc hb
              rw [hall k v (by omega) hkv] at this
              cases this
      · refine .inl ⟨(S, u), hm, fun k v hk hkv => ?_⟩
        by_cases e : k = S
        · subst e; rw [hm] at hkv; cases hkv; exact (befQ_ord O).irr _
        · rw [hall k (by omega)] at hkv; cases hkv

theorem cntQ_less (m : Nat → Option α) (k : Nat) {v : α} (hm : m k = some v) : ∀ S, k < S → cntQ S (mSet m k none) + 1 = cntQ S m := by
  intro S
  induction S with
  | zero => intro h; omega
  | succ S ih =>
    intro hk
    unfold cntQ at *
    rw [List.range_succ, List.countP_append, List.countP_append]
    by_cases e : k = S
    · subst e
      have h1 : (List.range k).countP (fun i => (mSet m k none i).isSome) = (List.range k).countP (fun i => (m i).isSome) := by
        apply List.countP_congr
        intro i hi
        have := List.mem_range.1 hi
        unfold mSet
        rw [if_neg (by omega)]
      rw [h1]
      simp [mSet, hm]
    · have := ih (by omega)
      have h2 : ([S].countP fun i => (mSet m k none i).isSome) = [S].countP fun i => (m i).isSome := by
        simp [mSet, Ne.symm e]
      rw [h2]
      omega

theorem cntQ_none {m : Nat → Option α} {S : Nat} (h : ∀ k, m k = none) : cntQ S m = 0 := by
  unfold cntQ
  rw [List.countP_eq_zero]
  intro k _
  simp [h k]

theorem low_mSet {m : Nat → Option α} {S k : Nat} (h : ∀ i, S ≤ i → m i = none) : ∀ i, S ≤ i → mSet m k none i = none := fun i hi => by
  unfold mSet
  split
  · rfl
  · exact h i hi

theorem drn_ex {lt : α → α → Bool} (O : KOrd lt) (S : Nat) : ∀ (c : Nat) (m : Nat → Option α), (∀ k, S ≤ k → m k = none) → cntQ S m = c → ∃ l, Drn lt m l := by
  intro c
  induction c with
  | zero =>
    intro m hlow hc
    refine ⟨[], fun k => ?_⟩
    by_cases hk : S ≤ k
    · exact hlow k hk
    · cases hm : m k with
      | none => rfl
      | some v => have := cntQ_less m k hm S (by omega); omega
  | succ c ih =>
    intro m hlow hc
    rcases first_ex O m S with ⟨x, hx, hall⟩ | hall
    · have hxs : x.1 < S := by
        rcases Nat.lt_or_ge x.1 S with h | h
        · exact h
        · rw [hlow _ h] at hx; cases hx
      have := cntQ_less m x.1 hx S hxs
      obtain ⟨l, hl⟩ := ih (mSet m x.1 none) (low_mSet hlow) (by omega)
      refine ⟨x :: l, ⟨hx, fun k v hk => ?_⟩, hl⟩
      refine hall k v ?_ hk
      rcases Nat.lt_or_ge k S with h | h
      · exact h
      · rw [hlow _ h] at hk; cases hk
    · exfalso
      have : ∀ k, m k = none := fun k => by
        rcases Nat.lt_or_ge k S with h | h
        · exact hall k h
        · exact hlow k h
      rw [cntQ_none this] at hc
      cases hc

theorem Drn.len {lt : α → α → Bool} {S : Nat} : ∀ {l : List (Nat × α)} {m : Nat → Option α}, Drn lt m l → (∀ k, S ≤ k → m k = none) → l.length = cntQ S m
  | [], m, h, _ => (cntQ_none h).symm
  | x :: l, m, h, hlow => by
    have hxs : x.1 < S := by
      rcases Nat.lt_or_ge x.1 S with h1 | h1
      · exact h1
      · have := h.1.1; rw [hlow _ h1] at this; cases this
    have := cntQ_less m x.1 h.1.1 S hxs
    have := Drn.len h.2 (low_mSet hlow)
    simp only [List.length_cons]
    omega

/-- What is left in the queue when the first i ids have come out. -/
def mAt (m : Nat → Option α) (l : List (Nat × α)) (i : Nat) : Nat → Option α := (l.take i).foldl (fun m x => mSet m x.1 none) m

theorem mAt_zero (m : Nat → Option α) (l : List (Nat × α)) : mAt m l 0 = m := rfl
theorem mAt_succ (m : Nat → Option α) {l : List (Nat × α)} {i : Nat} {x : Nat × α} (h : l[i]? = some x) : mAt m l (i + 1) = mSet (mAt m l i) x.1 none := by
  obtain ⟨h1, h2⟩ := List.getElem?_eq_some_iff.1 h
  unfold mAt
  rw [List.take_succ_eq_append_getElem h1, List.foldl_append, h2]
  rfl

theorem Drn.drop {lt : α → α → Bool} {m : Nat → Option α} {l : List (Nat × α)} (h : Drn lt m l) : ∀ i, i ≤ l.length → Drn lt (mAt m l i) (l.drop i)
  | 0, _ => h
  | i + 1, hi => by
    have hx : l[i]? = some l[i] := List.getElem?_eq_getElem (by omega)
    have := Drn.drop h i (by omega)
    rw [← List.getElem_cons_drop (by omega : i < l.length)] at this
    rw [mAt_succ m hx]
    exact this.2

theorem Drn.fst {lt : α → α → Bool} {m : Nat → Option α} {l : List (Nat × α)} (h : Drn lt m l) {i : Nat} {x : Nat × α} (hx : l[i]? = some x) : mAt m l i x.1 = some x.2 ∧ ∀ k v, mAt m l i k = some v → befQ lt (k, v) x = false := by
  obtain ⟨h1, h2⟩ := List.getElem?_eq_some_iff.1 hx
  have := h.drop i (by omega)
  rw [← List.getElem_cons_drop h1, h2] at this
  exact this.1

theorem Drn.done {lt : α → α → Bool} {m : Nat → Option α} {l : List (Nat × α)} (h : Drn lt m l) : ∀ k, mAt m l l.length k = none := by
  have := h.drop l.length (Nat.le_refl _)
  rw [List.drop_length] at this
  exact this

theorem mAt_sub (m : Nat → Option α) (l : List (Nat × α)) {k : Nat} {v : α} : ∀ i, i ≤ l.length → mAt m l i k = some v → m k = some v
  | 0, _, h => h
  | i + 1, hi, h => by
    rw [mAt_succ m (List.getElem?_eq_getElem (by omega : i < l.length))] at h
    unfold mSet at h
    split at h
    · cases h
    · exact mAt_sub m l i (by omega) h

/-- Each id has its priority. -/
theorem Drn.mem {lt : α → α → Bool} {m : Nat → Option α} {l : List (Nat × α)} (h : Drn lt m l) {i : Nat} {x : Nat × α} (hx : l[i]? = some x) : m x.1 = some x.2 :=
  mAt_sub m l i (by have := (List.getElem?_eq_some_iff.1 hx).1; omega) (h.fst hx).1

/-- Neighbours are in order. -/
theorem Drn.step {lt : α → α → Bool} {m : Nat → Option α} {l : List (Nat × α)} (h : Drn lt m l) {i : Nat} {x y : Nat × α} (hx : l[i]? = some x) (hy : l[i + 1]? = some y) : befQ lt y x = false ∧ y.1 ≠ x.1 := by
  have h1 := (h.fst hy).1
  rw [mAt_succ m hx] at h1
  have hne : y.1 ≠ x.1 := fun e => by
    unfold mSet at h1
    rw [if_pos e] at h1
    cases h1
  unfold mSet at h1
  rw [if_neg hne] at h1
  exact ⟨(h.fst hx).2 y.1 y.2 h1, hne⟩
end
end Go.Proofs.Ytpnhklehpilopaa
