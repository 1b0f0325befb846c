/- Binary heaps in lists: what a swap does to the order along the heap. Plain mathematics. -/
import Derived.Test.YtpnhklehpilopaaOmMath
namespace Go.Proofs.Ytpnhklehpilopaa

section
variable {ι : Type}

theorem KOrd.asym {lt : ι → ι → Bool} (O : KOrd lt) {a b : ι} (h : lt a b = true) : lt b a = false := by
  cases h2 : lt b a with
  | false => rfl
  | true => have := O.tra _ _ _ h h2; rw [O.irr] at this; cases this

/-- Not less, twice over. -/
theorem KOrd.nle {lt : ι → ι → Bool} (O : KOrd lt) {a b c : ι} (h1 : lt b a = false) (h2 : lt c b = false) : lt c a = false := by
  cases h : lt c a with
  | false => rfl
  | true =>
    cases h3 : lt a b with
    | true => have := O.tra _ _ _ h h3; rw [h2] at this; cases this
    | false => have := O.tot _ _ h1 h3; subst this; rw [h2] at h; cases h

theorem KOrd.ltle {lt : ι → ι → Bool} (O : KOrd lt) {a b c : ι} (h1 : lt a b = true) (h2 : lt c b = false) : lt c a = false :=
  O.nle (O.asym h1) h2

/-- Two places exchanged. -/
def swp (l : List ι) (i j : Nat) : List ι :=
  match l[i]?, l[j]? with
  | some x, some y => (l.set i y).set j x
  | _, _ => l

theorem swp_eq {l : List ι} {i j : Nat} {x y : ι} (hi : l[i]? = some x) (hj : l[j]? = some y) : swp l i j = (l.set i y).set j x := by
  simp [swp, hi, hj]

theorem swp_len (l : List ι) (i j : Nat) : (swp l i j).length = l.length := by
  unfold swp; split <;> simp

theorem swp_at {l : List ι} {i j : Nat} {x y : ι} (hi : l[i]? = some x) (hj : l[j]? = some y) (k : Nat) : (swp l i j)[k]? = if k = j then some x else if k = i then some y else l[k]? := by
  rw [swp_eq hi hj]
  have h1 := (List.getElem?_eq_some_iff.1 hi).1
  have h2 := (List.getElem?_eq_some_iff.1 hj).1
  rw [List.getElem?_set, List.getElem?_set]
  by_cases a : k = j
  · subst a; simp [h2]
  · have a' : ¬ j = k := fun e => a e.symm
    by_cases b : k = i
    · subst b; simp [a, a', h1]
    · have b' : ¬ i = k := fun e => b e.symm
      simp [a, a', b, b']

theorem swp_self {l : List ι} {i : Nat} {x : ι} (hi : l[i]? = some x) : swp l i i = l := by
  apply List.ext_getElem?
  intro k
  rw [swp_at hi hi]
  by_cases a : k = i
  · subst a; simp [hi]
  · simp [a]

theorem swp_mem {l : List ι} {i j : Nat} (x : ι) : x ∈ swp l i j ↔ x ∈ l := by
  cases hi : l[i]? with
  | none => simp [swp, hi]
  | some a =>
    cases hj : l[j]? with
    | none => simp [swp, hi, hj]
    | some b =>
      simp only [List.mem_iff_getElem?]
      constructor
      · rintro ⟨k, hk⟩
        rw [swp_at hi hj] at hk
        split at hk
        · exact ⟨i, hi.trans hk⟩
        · split at hk
          · exact ⟨j, hj.trans hk⟩
          · exact ⟨k, hk⟩
      · rintro ⟨k, hk⟩
        by_cases h1 : k = i
        · subst h1; rw [hi] at hk; cases hk; exact ⟨j, by rw [swp_at hi hj]; simp⟩
        · by_cases h2 : k = j
          · subst h2; rw [hj] at hk; cases hk
            exact ⟨i, by rw [swp_at hi hj]; simp [show ¬ i = k from fun e => h1 e.symm]⟩
          · exact ⟨k, by rw [swp_at hi hj]; simp [h1, h2, hk]⟩

/-- Along the heap the item at j does not come ahead of the one above it. -/
def Up (lt : ι → ι → Bool) (l : List ι) (j k : Nat) : Prop := ∀ x y, l[j]? = some x → l[k]? = some y → lt x y = false

/-- A heap. -/
def Hp (lt : ι → ι → Bool) (l : List ι) : Prop := ∀ j, 0 < j → Up lt l j ((j - 1) / 2)

/-- A heap, but for the item at i, which may be anything. -/
structure HpW (lt : ι → ι → Bool) (l : List ι) (i : Nat) : Prop where
  off : ∀ j, 0 < j → j ≠ i → (j - 1) / 2 ≠ i → Up lt l j ((j - 1) / 2)
  thr : ∀ j, 0 < j → 0 < i → (j - 1) / 2 = i → Up lt l j ((i - 1) / 2)

/-- .. which does not come behind what is below it. -/
structure HpU (lt : ι → ι → Bool) (l : List ι) (i : Nat) : Prop where
  off : ∀ j, 0 < j → j ≠ i → Up lt l j ((j - 1) / 2)
  thr : ∀ j, 0 < j → 0 < i → (j - 1) / 2 = i → Up lt l j ((i - 1) / 2)

/-- .. which does not come ahead of what is above it. -/
structure HpD (lt : ι → ι → Bool) (l : List ι) (i : Nat) : Prop where
  off : ∀ j, 0 < j → (j - 1) / 2 ≠ i → Up lt l j ((j - 1) / 2)
  thr : ∀ j, 0 < j → 0 < i → (j - 1) / 2 = i → Up lt l j ((i - 1) / 2)

theorem HpU.wide {lt : ι → ι → Bool} {l : List ι} {i : Nat} (h : HpU lt l i) : HpW lt l i := ⟨fun j h0 h1 _ => h.off j h0 h1, h.thr⟩

theorem Up.chain {lt : ι → ι → Bool} (O : KOrd lt) {l : List ι} {a b c : Nat} (h1 : Up lt l a b) (h2 : Up lt l b c) (hb : b < l.length) : Up lt l a c := fun x z hx hz => by
  obtain ⟨y, hy⟩ : ∃ y, l[b]? = some y := ⟨_, List.getElem?_eq_getElem hb⟩
  exact O.nle (h2 y z hy hz) (h1 x y hx hy)

theorem Hp.down {lt : ι → ι → Bool} (O : KOrd lt) {l : List ι} (h : Hp lt l) (i : Nat) : HpD lt l i :=
  ⟨fun j h0 _ => h j h0, fun j h0 hi hj => by
    intro x z hx hz
    have hl := (List.getElem?_eq_some_iff.1 hx).1
    have := h j h0
    rw [hj] at this
    exact Up.chain O this (h i hi) (by omega) x z hx hz⟩

/-- The item goes up by one. -/
theorem HpW.up {lt : ι → ι → Bool} (O : KOrd lt) {l : List ι} {i : Nat} (h : HpW lt l i) (hi : 0 < i) {x y : ι} (hx : l[i]? = some x) (hy : l[(i - 1) / 2]? = some y) (hlt : lt x y = true) : HpU lt (swp l i ((i - 1) / 2)) ((i - 1) / 2) := by
  generalize hp : (i - 1) / 2 = p at *
  have hpi : p < i := by omega
  refine ⟨?_, ?_⟩
  · intro j h0 hjp u v hu hv
    rw [swp_at hx hy] at hu hv
    rw [if_neg hjp] at hu
    by_cases hji : j = i
    · subst hji
      rw [if_pos rfl] at hu; cases hu
      rw [hp, if_pos rfl] at hv; cases hv
      exact O.asym hlt
    · rw [if_neg hji] at hu
      by_cases h1 : (j - 1) / 2 = p
      · rw [if_pos h1] at hv; cases hv
        have := h.off j h0 hji (by omega) u y hu (by rw [h1]; exact hy)
        exact O.ltle hlt this
      · rw [if_neg h1] at hv
        by_cases h2 : (j - 1) / 2 = i
        · rw [if_pos h2] at hv; cases hv
          exact h.thr j h0 hi h2 u y hu (by rw [hp]; exact hy)
        · rw [if_neg h2] at hv
          exact h.off j h0 hji h2 u v hu hv
  · intro j h0 hp0 hj u v hu hv
    rw [swp_at hx hy] at hu hv
    have hjp : j ≠ p := by omega
    rw [if_neg hjp] at hu
    rw [if_neg (by omega), if_neg (by omega)] at hv
    have hpp := h.off p hp0 (by omega) (by omega)
    by_cases hji : j = i
    · subst hji
      rw [if_pos rfl] at hu; cases hu
      exact hpp y v hy hv
    · rw [if_neg hji] at hu
      have := h.off j h0 hji (by omega)
      rw [hj] at this
      exact O.nle (hpp y v hy hv) (this u y hu hy)

/-- The item stays: no more up. -/
theorem HpW.stay {lt : ι → ι → Bool} {l : List ι} {i : Nat} (h : HpW lt l i) (hn : 0 < i → Up lt l i ((i - 1) / 2)) : HpD lt l i :=
  ⟨fun j h0 hj => by
    by_cases hji : j = i
    · subst hji; exact hn h0
    · exact h.off j h0 hji hj, h.thr⟩
theorem HpU.stay {lt : ι → ι → Bool} {l : List ι} {i : Nat} (h : HpU lt l i) (hn : 0 < i → Up lt l i ((i - 1) / 2)) : Hp lt l := fun j h0 => by
  by_cases hji : j = i
  · subst hji; exact hn h0
  · exact h.off j h0 hji

/-- The item goes down by one, to the least one below it. -/
theorem HpD.down {lt : ι → ι → Bool} (O : KOrd lt) {l : List ι} {i f : Nat} (h : HpD lt l i) (hf : 0 < f) (hfi : (f - 1) / 2 = i) {x y : ι} (hx : l[i]? = some x) (hy : l[f]? = some y) (hlt : lt y x = true)
    (hmin : ∀ j, 0 < j → (j - 1) / 2 = i → Up lt l j f) : HpD lt (swp l i f) f := by
  have hne : f ≠ i := by omega
  refine ⟨?_, ?_⟩
  · intro j h0 hj u v hu hv
    rw [swp_at hx hy] at hu hv
    rw [if_neg hj] at hv
    by_cases hjf : j = f
    · subst hjf
      rw [if_pos rfl] at hu; cases hu
      rw [if_pos hfi] at hv; cases hv
      exact O.asym hlt
    · rw [if_neg hjf] at hu
      by_cases hji : j = i
      · subst hji
        rw [if_pos rfl] at hu; cases hu
        rw [if_neg (by omega)] at hv
        exact h.thr f hf h0 hfi _ v hy hv
      · rw [if_neg hji] at hu
        by_cases hp : (j - 1) / 2 = i
        · rw [if_pos hp] at hv; cases hv
          exact hmin j h0 hp u y hu hy
        · rw [if_neg hp] at hv
          exact h.off j h0 hp u v hu hv
  · intro j h0 _ hj u v hu hv
    rw [swp_at hx hy] at hu hv
    rw [hfi] at hv
    rw [if_neg (show ¬ i = f by omega), if_pos rfl] at hv; cases hv
    rw [if_neg (by omega), if_neg (by omega)] at hu
    exact h.off j h0 (by omega) u y hu (by rw [hj]; exact hy)

/-- The item stays: nothing below comes ahead of it. -/
theorem HpD.stay {lt : ι → ι → Bool} {l : List ι} {i : Nat} (h : HpD lt l i) (hn : ∀ j, 0 < j → (j - 1) / 2 = i → Up lt l j i) : Hp lt l := fun j h0 => by
  by_cases hp : (j - 1) / 2 = i
  · rw [hp]; exact hn j h0 hp
  · exact h.off j h0 hp

/-- The first item of a heap comes ahead of none. -/
theorem Hp.first {lt : ι → ι → Bool} (O : KOrd lt) {l : List ι} (h : Hp lt l) {x : ι} (hx : l[0]? = some x) : ∀ (j : Nat) (y : ι), l[j]? = some y → lt y x = false := by
  intro j
  induction j using Nat.strongRecOn with
  | ind j ih =>
    intro y hy
    by_cases h0 : j = 0
    · subst h0; rw [hx] at hy; cases hy; exact O.irr _
    · have hl := (List.getElem?_eq_some_iff.1 hy).1
      obtain ⟨z, hz⟩ : ∃ z, l[(j - 1) / 2]? = some z := ⟨_, List.getElem?_eq_getElem (by omega)⟩
      exact O.nle (ih ((j - 1) / 2) (by omega) z hz) (h j (by omega) y z hy hz)

/-- One item more at the end. -/
theorem Hp.push {lt : ι → ι → Bool} {l : List ι} (h : Hp lt l) (x : ι) : HpU lt (l ++ [x]) l.length := by
  refine ⟨?_, ?_⟩
  · intro j h0 hj u v hu hv
    have hl := (List.getElem?_eq_some_iff.1 hu).1
    simp at hl
    rw [List.getElem?_append_left (by omega)] at hu hv
    exact h j h0 u v hu hv
  · intro j h0 h1 hj u v hu hv
    have hl := (List.getElem?_eq_some_iff.1 hu).1
    simp at hl
    omega

/-- The end has nothing below it. -/
theorem HpD.last {lt : ι → ι → Bool} {l : List ι} {i : Nat} (h : HpD lt l i) (hi : l.length ≤ i + 1) : Hp lt l :=
  h.stay fun j h0 hj u v hu hv => by
    have hl := (List.getElem?_eq_some_iff.1 hu).1
    omega

/-- Another item in the place of one. -/
theorem Hp.other {lt : ι → ι → Bool} (O : KOrd lt) {l : List ι} (h : Hp lt l) (i : Nat) (x : ι) : HpW lt (l.set i x) i := by
  have hd := h.down O i
  refine ⟨?_, ?_⟩
  · intro j h0 hj hp u v hu hv
    rw [List.getElem?_set_ne (fun e => hj e.symm)] at hu
    rw [List.getElem?_set_ne (fun e => hp e.symm)] at hv
    exact h j h0 u v hu hv
  · intro j h0 hi hj u v hu hv
    rw [List.getElem?_set_ne (by omega)] at hu
    rw [List.getElem?_set_ne (by omega)] at hv
    exact hd.thr j h0 hi hj u v hu hv

/-- The end taken away. -/
theorem HpW.cut {lt : ι → ι → Bool} {l : List ι} {i : Nat} (h : HpW lt l i) (n : Nat) : HpW lt (l.take n) i := by
  have hg : ∀ {j : Nat} {u : ι}, (l.take n)[j]? = some u → l[j]? = some u := fun {j u} hu => by
    rw [List.getElem?_take] at hu
    split at hu
    · exact hu
    · cases hu
  exact ⟨fun j h0 h1 h2 u v hu hv => h.off j h0 h1 h2 u v (hg hu) (hg hv), fun j h0 h1 h2 u v hu hv => h.thr j h0 h1 h2 u v (hg hu) (hg hv)⟩
theorem Hp.cut {lt : ι → ι → Bool} {l : List ι} (h : Hp lt l) (n : Nat) : Hp lt (l.take n) := by
  have hg : ∀ {j : Nat} {u : ι}, (l.take n)[j]? = some u → l[j]? = some u := fun {j u} hu => by
    rw [List.getElem?_take] at hu
    split at hu
    · exact hu
    · cases hu
  exact fun j h0 u v hu hv => h j h0 u v (hg hu) (hg hv)
theorem hp_nil (lt : ι → ι → Bool) : Hp lt ([] : List ι) := fun j _ u v hu _ => by simp at hu
end

section
variable {α : Type}

/-- The order of two ids with their priorities. -/
def befQ (lt : α → α → Bool) (x y : Nat × α) : Bool := lt x.2 y.2 || (!lt y.2 x.2 && decide (x.1 < y.1))

theorem befQ_ord {lt : α → α → Bool} (O : KOrd lt) : KOrd (befQ lt) := by
  have hc : ∀ x y : Nat × α, befQ lt x y = true ↔ lt x.2 y.2 = true ∨ (lt x.2 y.2 = false ∧ lt y.2 x.2 = false ∧ x.1 < y.1) := fun x y => by
    unfold befQ
    cases h : lt x.2 y.2 <;> cases h2 : lt y.2 x.2 <;> simp
  refine ⟨fun a => ?_, fun a b c h1 h2 => ?_, fun a b h1 h2 => ?_⟩
  · simp [befQ, O.irr]
  · rw [hc] at *
    rcases h1 with h1 | ⟨h1, h1', h1i⟩
    · rcases h2 with h2 | ⟨h2, h2', _⟩
      · exact .inl (O.tra _ _ _ h1 h2)
      · have := O.tot _ _ h2 h2'; rw [← this]; exact .inl h1
    · have e := O.tot _ _ h1 h1'
      rw [e]
      rcases h2 with h2 | ⟨h2, h2', h2i⟩
      · exact .inl h2
      · exact .inr ⟨h2, h2', by omega⟩
  · have k1 : lt a.2 b.2 = false := by
      cases h : lt a.2 b.2 with
      | false => rfl
      | true => have := (hc a b).2 (.inl h); rw [h1] at this; cases this
    have k2 : lt b.2 a.2 = false := by
      cases h : lt b.2 a.2 with
      | false => rfl
      | true => have := (hc b a).2 (.inl h); rw [h2] at this; cases this
    have e := O.tot _ _ k1 k2
    have i1 : ¬ a.1 < b.1 := fun hlt => by have := (hc a b).2 (.inr ⟨k1, k2, hlt⟩); rw [h1] at this; cases this
    have i2 : ¬ b.1 < a.1 := fun hlt => by have := (hc b a).2 (.inr ⟨k2, k1, hlt⟩); rw [h2] at this; cases this
    have : a.1 = b.1 := by omega
    exact Prod.ext this e

/-- Where the ids stand: T k is 1 more than the place of k, 0 where k is not there. -/
structure Pl (S : Nat) (l : List (Nat × α)) (T : Nat → Nat) : Prop where
  fwd : ∀ (i : Nat) (x : Nat × α), l[i]? = some x → x.1 < S ∧ T x.1 = i + 1
  bwd : ∀ k, T k ≠ 0 → ∃ x, l[T k - 1]? = some x ∧ x.1 = k

theorem Pl.inj {S : Nat} {l : List (Nat × α)} {T : Nat → Nat} (h : Pl S l T) {i j : Nat} {x y : Nat × α} (hi : l[i]? = some x) (hj : l[j]? = some y) (e : x.1 = y.1) : i = j := by
  have h1 := (h.fwd i x hi).2
  have h2 := (h.fwd j y hj).2
  rw [e, h2] at h1
  omega

theorem Pl.len {S : Nat} {l : List (Nat × α)} {T : Nat → Nat} (h : Pl S l T) : l.length ≤ S := by
  have key : ∀ (S : Nat) (ids : List Nat), ids.Nodup → (∀ k ∈ ids, k < S) → ids.length ≤ S := by
    intro S
    induction S with
    | zero =>
      intro ids _ hb
      cases ids with
      | nil => simp
      | cons a t => have := hb a (by simp); omega
    | succ S ih =>
      intro ids hn hb
      have h1 := ih (ids.erase S) (hn.erase S) (fun k hk => by
        have hk' := (hn.mem_erase_iff).1 hk
        have := hb k hk'.2
        have := hk'.1
        omega)
      have h2 := List.length_erase (a := S) (l := ids)
      split at h2 <;> omega
  have := key S (l.map (·.1)) (by
    rw [List.nodup_iff_pairwise_ne, List.pairwise_iff_getElem]
    intro i j hi hj hlt e
    simp at hi hj
    simp at e
    have := h.inj (List.getElem?_eq_getElem hi) (List.getElem?_eq_getElem hj) e
    omega) (by
    intro k hk
    obtain ⟨x, hx, rfl⟩ := List.mem_map.1 hk
    obtain ⟨i, hi⟩ := List.mem_iff_getElem?.1 hx
    exact (h.fwd i x hi).1)
  simpa using this

/-- T with the place of one id changed. -/
def tSet (T : Nat → Nat) (k v : Nat) : Nat → Nat := fun i => if i = k then v else T i

theorem Pl.swap {S : Nat} {l : List (Nat × α)} {T : Nat → Nat} (h : Pl S l T) {i j : Nat} {x y : Nat × α} (hi : l[i]? = some x) (hj : l[j]? = some y) : Pl S (swp l i j) (tSet (tSet T y.1 (i + 1)) x.1 (j + 1)) := by
  have hxy : x.1 = y.1 → i = j := h.inj hi hj
  refine ⟨fun k z hz => ?_, fun k hk => ?_⟩
  · rw [swp_at hi hj] at hz
    by_cases h1 : k = j
    · rw [if_pos h1] at hz; cases hz
      exact ⟨(h.fwd i x hi).1, by simp [tSet, h1]⟩
    · rw [if_neg h1] at hz
      by_cases h2 : k = i
      · rw [if_pos h2] at hz; cases hz
        have : ¬ y.1 = x.1 := fun e => by have := hxy e.symm; omega
        exact ⟨(h.fwd j y hj).1, by simp [tSet, this, h2]⟩
      · rw [if_neg h2] at hz
        have e1 : ¬ z.1 = x.1 := fun e => h2 (h.inj hz hi e)
        have e2 : ¬ z.1 = y.1 := fun e => h1 (h.inj hz hj e)
        have := h.fwd k z hz
        exact ⟨this.1, by simp [tSet, e1, e2, this.2]⟩
  · by_cases h1 : k = x.1
    · refine ⟨x, ?_, h1.symm⟩
      have : tSet (tSet T y.1 (i + 1)) x.1 (j + 1) k = j + 1 := by simp [tSet, h1]
      rw [this, swp_at hi hj]; simp
    · by_cases h2 : k = y.1
      · refine ⟨y, ?_, h2.symm⟩
        have : tSet (tSet T y.1 (i + 1)) x.1 (j + 1) k = i + 1 := by simp [tSet, h1, h2]; exact fun e => absurd (h2.trans e) h1
        rw [this, swp_at hi hj]
        by_cases hij : i = j
        · subst hij; rw [hi] at hj; cases hj; exact absurd h2 h1
        · simp [hij]
      · have : tSet (tSet T y.1 (i + 1)) x.1 (j + 1) k = T k := by simp [tSet, h1, h2]
        rw [this] at hk ⊢
        obtain ⟨z, hz, hzk⟩ := h.bwd k hk
        refine ⟨z, ?_, hzk⟩
        rw [swp_at hi hj]
        have e1 : ¬ (T k - 1 = j) := fun e => by rw [e, hj] at hz; cases hz; exact h2 hzk.symm
        have e2 : ¬ (T k - 1 = i) := fun e => by rw [e, hi] at hz; cases hz; exact h1 hzk.symm
        simp [e1, e2, hz]

theorem Pl.push {S : Nat} {l : List (Nat × α)} {T : Nat → Nat} (h : Pl S l T) {x : Nat × α} (hx : x.1 < S) (h0 : T x.1 = 0) : Pl S (l ++ [x]) (tSet T x.1 (l.length + 1)) := by
  refine ⟨fun k z hz => ?_, fun k hk => ?_⟩
  · have hl := (List.getElem?_eq_some_iff.1 hz).1
    simp at hl
    by_cases he : k = l.length
    · subst he; simp at hz; subst hz; exact ⟨hx, by simp [tSet]⟩
    · rw [List.getElem?_append_left (by omega)] at hz
      have h1 := h.fwd k z hz
      have : ¬ z.1 = x.1 := fun e => by rw [e, h0] at h1; omega
      exact ⟨h1.1, by simp [tSet, this, h1.2]⟩
  · by_cases he : k = x.1
    · exact ⟨x, by simp [tSet, he], he.symm⟩
    · have : tSet T x.1 (l.length + 1) k = T k := by simp [tSet, he]
      rw [this] at hk ⊢
      obtain ⟨z, hz, hzk⟩ := h.bwd k hk
      exact ⟨z, by rw [List.getElem?_append_left (List.getElem?_eq_some_iff.1 hz).1]; exact hz, hzk⟩

theorem Pl.pop {S : Nat} {l : List (Nat × α)} {T : Nat → Nat} (h : Pl S l T) {x : Nat × α} (hx : l[l.length - 1]? = some x) : Pl S (l.take (l.length - 1)) (tSet T x.1 0) := by
  have hl := (List.getElem?_eq_some_iff.1 hx).1
  refine ⟨fun k z hz => ?_, fun k hk => ?_⟩
  · rw [List.getElem?_take] at hz
    split at hz
    · have h1 := h.fwd k z hz
      have : ¬ z.1 = x.1 := fun e => by have := h.inj hz hx e; omega
      exact ⟨h1.1, by simp [tSet, this, h1.2]⟩
    · cases hz
  · by_cases he : k = x.1
    · simp [tSet, he] at hk
    · have : tSet T x.1 0 k = T k := by simp [tSet, he]
      rw [this] at hk ⊢
      obtain ⟨z, hz, hzk⟩ := h.bwd k hk
      refine ⟨z, ?_, hzk⟩
      have h2 := (List.getElem?_eq_some_iff.1 hz).1
      have : T k - 1 ≠ l.length - 1 := fun e => by rw [e, hx] at hz; cases hz; exact he hzk.symm
      rw [List.getElem?_take, if_pos (by omega)]; exact hz

theorem Pl.other {S : Nat} {l : List (Nat × α)} {T : Nat → Nat} (h : Pl S l T) {i : Nat} {x : Nat × α} (hi : l[i]? = some x) (p : α) : Pl S (l.set i (x.1, p)) T := by
  have hl := (List.getElem?_eq_some_iff.1 hi).1
  refine ⟨fun k z hz => ?_, fun k hk => ?_⟩
  · by_cases he : i = k
    · subst he; rw [List.getElem?_set_self hl] at hz; cases hz; exact h.fwd i x hi
    · rw [List.getElem?_set_ne he] at hz; exact h.fwd k z hz
  · obtain ⟨z, hz, hzk⟩ := h.bwd k hk
    by_cases he : i = T k - 1
    · rw [← he] at hz ⊢
      rw [hi] at hz; cases hz
      exact ⟨_, List.getElem?_set_self hl, hzk⟩
    · exact ⟨z, by rw [List.getElem?_set_ne he]; exact hz, hzk⟩
end
end Go.Proofs.Ytpnhklehpilopaa
