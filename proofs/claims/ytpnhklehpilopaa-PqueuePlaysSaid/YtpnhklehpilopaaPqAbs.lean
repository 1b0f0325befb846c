/- Which ids a heap has, with which priorities, whatever its layout. Plain mathematics. -/
import Derived.Test.YtpnhklehpilopaaPqMath
namespace Go.Proofs.Ytpnhklehpilopaa

section
variable {α : Type}

/-- The items of l are just the ids of m with their priorities. -/
def QM (l : List (Nat × α)) (m : Nat → Option α) : Prop := ∀ x : Nat × α, x ∈ l ↔ m x.1 = some x.2

/-- m with another priority of one id, or none. -/
def mSet (m : Nat → Option α) (k : Nat) (o : Option α) : Nat → Option α := fun i => if i = k then o else m i

/-- How many ids below S there are. -/
def cntQ (S : Nat) (m : Nat → Option α) : Nat := (List.range S).countP (fun k => (m k).isSome)

theorem qm_nil : QM ([] : List (Nat × α)) (fun _ => none) := fun x => by simp

theorem QM.get {S : Nat} {l : List (Nat × α)} {T : Nat → Nat} {m : Nat → Option α} (h : QM l m) (hp : Pl S l T) {k : Nat} {v : α} (hk : m k = some v) : T k ≠ 0 ∧ k < S ∧ l[T k - 1]? = some (k, v) := by
  obtain ⟨i, hi⟩ := List.mem_iff_getElem?.1 ((h (k, v)).2 hk)
  have h1 := hp.fwd i _ hi
  have h2 : T k = i + 1 := h1.2
  exact ⟨by omega, h1.1, by rw [h2]; exact hi⟩

theorem QM.absent {S : Nat} {l : List (Nat × α)} {T : Nat → Nat} {m : Nat → Option α} (h : QM l m) (hp : Pl S l T) {k : Nat} (hk : m k = none) : T k = 0 := by
  cases ht : T k with
  | zero => rfl
  | succ t =>
    obtain ⟨x, hx, rfl⟩ := hp.bwd k (by omega)
    have := (h x).1 (List.mem_of_getElem? hx)
    rw [hk] at this; cases this

theorem QM.low {S : Nat} {l : List (Nat × α)} {T : Nat → Nat} {m : Nat → Option α} (h : QM l m) (hp : Pl S l T) {k : Nat} (hk : S ≤ k) : m k = none := by
  cases hm : m k with
  | none => rfl
  | some v => have := (h.get hp hm).2.1; omega

theorem QM.push {l l' : List (Nat × α)} {m : Nat → Option α} (h : QM l m) {x : Nat × α} (hx : m x.1 = none) (hl : ∀ y, y ∈ l' ↔ y ∈ l ++ [x]) : QM l' (mSet m x.1 (some x.2)) := fun y => by
  rw [hl, List.mem_append, List.mem_singleton, h y]
  unfold mSet
  by_cases e : y.1 = x.1
  · rw [if_pos e, e, hx]
    constructor
    · rintro (h1 | rfl)
      · cases h1
      · rfl
    · intro h1
      exact .inr (Prod.ext e (Option.some.inj h1).symm)
  · rw [if_neg e]
    constructor
    · rintro (h1 | rfl)
      · exact h1
      · exact absurd rfl e
    · exact .inl

theorem QM.pop {l l' : List (Nat × α)} {m : Nat → Option α} (h : QM l m) {k : Nat} (hl : ∀ y, y ∈ l' ↔ y ∈ l ∧ y.1 ≠ k) : QM l' (mSet m k none) := fun y => by
  rw [hl, h y]
  unfold mSet
  by_cases e : y.1 = k <;> simp [e]

theorem QM.change {l l' : List (Nat × α)} {m : Nat → Option α} (h : QM l m) {k : Nat} {v : α} (hl : ∀ y, y ∈ l' ↔ (y ∈ l ∧ y.1 ≠ k) ∨ y = (k, v)) : QM l' (mSet m k (some v)) := fun y => by
  rw [hl, h y]
  unfold mSet
  by_cases e : y.1 = k
  · rw [if_pos e]
    constructor
    · rintro (⟨_, h1⟩ | rfl)
      · exact absurd e h1
      · rfl
    · intro h1
      exact .inr (Prod.ext e (Option.some.inj h1).symm)
  · rw [if_neg e]
    constructor
    · rintro (⟨h1, _⟩ | rfl)
      · exact h1
      · exact absurd rfl e
    · exact fun h1 => .inl ⟨h1, e⟩

theorem len_count : ∀ (S : Nat) (ids : List Nat), ids.Nodup → (∀ k ∈ ids, k < S) → ids.length = (List.range S).countP (fun k => decide (k ∈ ids)) := by
  intro S
  induction S with
  | zero =>
    intro ids _ hb
    cases ids with
    | nil => rfl
    | cons a t => have := hb a (by simp); omega
  | succ S ih =>
    intro ids hn hb
    have h1 := ih (ids.erase S) (hn.erase S) (fun k hk => by
      have hk' := (hn.mem_erase_iff).1 hk
      have := hb k hk'.2
      have := hk'.1
      omega)
    have h2 := List.length_erase (a := S) (l := ids)
    have h3 : (List.range S).countP (fun k => decide (k ∈ ids.erase S)) = (List.range S).countP (fun k => decide (k ∈ ids)) := by
      apply List.countP_congr
      intro k hk
      have := List.mem_range.1 hk
      simp only [decide_eq_true_eq]
      rw [hn.mem_erase_iff]
      exact ⟨fun h => h.2, fun h => ⟨by omega, h⟩⟩
    rw [List.range_succ, List.countP_append, ← h3, ← h1, h2]
    by_cases hm : S ∈ ids
    · have : 0 < ids.length := List.length_pos_of_mem hm
      simp [hm]
      omega
    · simp [hm]

theorem QM.cnt {S : Nat} {l : List (Nat × α)} {T : Nat → Nat} {m : Nat → Option α} (h : QM l m) (hp : Pl S l T) : l.length = cntQ S m := by
  have := len_count S (l.map (·.1)) (by
    rw [List.nodup_iff_pairwise_ne, List.pairwise_iff_getElem]
    intro i j hi hj hlt e
    simp at hi hj
    simp at e
    have := hp.inj (List.getElem?_eq_getElem hi) (List.getElem?_eq_getElem hj) e
    omega) (by
    intro k hk
    obtain ⟨x, hx, rfl⟩ := List.mem_map.1 hk
    obtain ⟨i, hi⟩ := List.mem_iff_getElem?.1 hx
    exact (hp.fwd i x hi).1)
  rw [List.length_map] at this
  rw [this]
  unfold cntQ
  apply List.countP_congr
  intro k _
  simp only [decide_eq_true_eq, List.mem_map, Option.isSome_iff_exists]
  constructor
  · rintro ⟨x, hx, rfl⟩; exact ⟨x.2, (h x).1 hx⟩
  · rintro ⟨v, hv⟩; exact ⟨(k, v), (h (k, v)).2 hv, rfl⟩

/-- The first item: none of m comes ahead of it. -/
theorem QM.first {lt : α → α → Bool} (O : KOrd lt) {l : List (Nat × α)} {m : Nat → Option α} (h : QM l m) (hh : Hp (befQ lt) l) {x : Nat × α} (hx : l[0]? = some x) : m x.1 = some x.2 ∧ ∀ k v, m k = some v → befQ lt (k, v) x = false :=
  ⟨(h x).1 (List.mem_of_getElem? hx), fun k v hk => by
    obtain ⟨i, hi⟩ := List.mem_iff_getElem?.1 ((h (k, v)).2 hk)
    exact hh.first (befQ_ord O) hx i _ hi⟩

/-- There is but one first item. -/
theorem first_one {lt : α → α → Bool} (O : KOrd lt) {m : Nat → Option α} {x y : Nat × α} (hx : m x.1 = some x.2 ∧ ∀ k v, m k = some v → befQ lt (k, v) x = false) (hy : m y.1 = some y.2 ∧ ∀ k v, m k = some v → befQ lt (k, v) y = false) : x = y :=
  (befQ_ord O).tot _ _ (hy.2 _ _ hx.1) (hx.2 _ _ hy.1)
end
end Go.Proofs.Ytpnhklehpilopaa
