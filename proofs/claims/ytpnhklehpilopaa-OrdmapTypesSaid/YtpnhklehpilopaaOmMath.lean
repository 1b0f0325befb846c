/- Ordered lists of keys with values: where a key stands, and what a change of one key does. Plain mathematics. -/

namespace Go.Proofs.Ytpnhklehpilopaa

/-- A strict total order, as a test. -/
structure KOrd {κ : Type} (lt : κ → κ → Bool) : Prop where
  irr : ∀ a, lt a a = false
  tra : ∀ a b c, lt a b = true → lt b c = true → lt a c = true
  tot : ∀ a b, lt a b = false → lt b a = false → a = b

section
variable {κ ν : Type}

/-- How many keys stand ahead of k. -/
def kRank (lt : κ → κ → Bool) (l : List (κ × ν)) (k : κ) : Nat := l.countP (fun p => lt p.1 k)

/-- The keys increase. -/
def Srt (lt : κ → κ → Bool) (l : List (κ × ν)) : Prop := l.Pairwise (fun a b => lt a.1 b.1 = true)

theorem kRank_le (lt : κ → κ → Bool) (l : List (κ × ν)) (k : κ) : kRank lt l k ≤ l.length := List.countP_le_length

theorem kRank_iff {lt : κ → κ → Bool} (O : KOrd lt) (k : κ) : ∀ {l : List (κ × ν)}, Srt lt l → ∀ (j : Nat) (p : κ × ν), l[j]? = some p → lt p.1 k = decide (j < kRank lt l k)
  | [], _, j, p, h => by simp at h
  | a :: t, hs, j, p, h => by
    have hs' := List.pairwise_cons.1 hs
    cases hak : lt a.1 k with
    | true =>
      have e : kRank lt (a :: t) k = kRank lt t k + 1 := by simp [kRank, hak]
      rw [e]
      cases j with
      | zero => simp at h; subst h; simp [hak]
      | succ j =>
        have := kRank_iff O k hs'.2 j p (by simpa using h)
        rw [this]; simp
    | false =>
      have hall : ∀ q ∈ a :: t, lt q.1 k = false := by
        intro q hq
        rcases List.mem_cons.1 hq with rfl | hq
        · exact hak
        · cases hqk : lt q.1 k with
          | false => rfl
          | true => rw [O.tra _ _ _ (hs'.1 q hq) hqk] at hak; cases hak
      have e : kRank lt (a :: t) k = 0 := by
        unfold kRank
        rw [List.countP_eq_zero]
        intro q hq
        simp [hall q hq]
      rw [e]
      have := hall p (List.mem_of_getElem? h)
      simp [this]

theorem rank_of_key {lt : κ → κ → Bool} (O : KOrd lt) {l : List (κ × ν)} (hs : Srt lt l) {j : Nat} {p : κ × ν} (h : l[j]? = some p) : kRank lt l p.1 = j := by
  have hj : j < l.length := (List.getElem?_eq_some_iff.1 h).1
  have h1 := kRank_iff O p.1 hs j p h
  rw [O.irr] at h1
  have h2 : ¬ j < kRank lt l p.1 := by simpa using h1.symm
  rcases Nat.lt_or_ge (kRank lt l p.1) j with h3 | h3
  · have hp : l[kRank lt l p.1]? = some (l[kRank lt l p.1]'(by omega)) := List.getElem?_eq_getElem (by omega)
    have h4 := kRank_iff O p.1 hs _ _ hp
    have h5 : lt (l[kRank lt l p.1]'(by omega)).1 p.1 = true := by
      have := List.pairwise_iff_getElem.1 hs (kRank lt l p.1) j (by omega) hj h3
      rw [(List.getElem?_eq_some_iff.1 h).2] at this
      exact this
    rw [h5] at h4
    simp at h4
  · omega

theorem set_at {l : List (κ × ν)} {r : Nat} {p : κ × ν} (h : r < l.length) : l.set r p = l.take r ++ p :: l.drop (r + 1) := by
  rw [List.set_eq_take_append_cons_drop, if_pos h]

theorem srt_mid {lt : κ → κ → Bool} {a b : List (κ × ν)} {k : κ} {v : ν} (hab : Srt lt (a ++ b)) (ha : ∀ p ∈ a, lt p.1 k = true) (hb : ∀ p ∈ b, lt k p.1 = true) : Srt lt (a ++ (k, v) :: b) := by
  unfold Srt at *
  rw [List.pairwise_append] at hab ⊢
  refine ⟨hab.1, List.pairwise_cons.2 ⟨hb, hab.2.1⟩, ?_⟩
  intro p hp q hq
  rcases List.mem_cons.1 hq with rfl | hq
  · exact ha p hp
  · exact hab.2.2 p hp q hq

theorem srt_cut {lt : κ → κ → Bool} {l : List (κ × ν)} (hs : Srt lt l) (r : Nat) : Srt lt (l.take r ++ l.drop (r + 1)) := by
  have h : (l.take r ++ l.drop (r + 1)).Sublist l := by
    have h1 : (l.drop (r + 1)).Sublist (l.drop r) := by
      rw [← List.drop_drop]
      exact List.drop_sublist _ _
    have := List.Sublist.append (List.Sublist.refl (l.take r)) h1
    rwa [List.take_append_drop] at this
  exact List.Pairwise.sublist h hs

theorem srt_nil (lt : κ → κ → Bool) : Srt lt ([] : List (κ × ν)) := List.Pairwise.nil

theorem ne_of_lt {lt : κ → κ → Bool} (O : KOrd lt) {a b : κ} (h : lt a b = true) : a ≠ b := by
  rintro rfl; rw [O.irr] at h; cases h

theorem drop_at {l : List (κ × ν)} {r : Nat} {p : κ × ν} (h : l[r]? = some p) : l.drop r = p :: l.drop (r + 1) := by
  obtain ⟨h1, h2⟩ := List.getElem?_eq_some_iff.1 h
  rw [List.drop_eq_getElem_cons h1, h2]

/-- Has the list the key? -/
def kHas [DecidableEq κ] (l : List (κ × ν)) (k : κ) : Bool := l.any (fun p => decide (p.1 = k))
/-- The value of the key. -/
def kGet [DecidableEq κ] (l : List (κ × ν)) (k : κ) : Option ν := (l.find? (fun p => decide (p.1 = k))).map (·.2)

variable [DecidableEq κ]

theorem kHas_true {l : List (κ × ν)} {k : κ} : kHas l k = true ↔ ∃ p ∈ l, p.1 = k := by simp [kHas]

/-- The key stands at its rank, or nowhere. -/
theorem has_at_rank {lt : κ → κ → Bool} (O : KOrd lt) {l : List (κ × ν)} (hs : Srt lt l) (k : κ) : kHas l k = true ↔ ∃ v, l[kRank lt l k]? = some (k, v) := by
  rw [kHas_true]
  constructor
  · rintro ⟨p, hp, rfl⟩
    obtain ⟨j, hj⟩ := List.mem_iff_getElem?.1 hp
    rw [rank_of_key O hs hj]
    exact ⟨p.2, hj⟩
  · rintro ⟨v, hv⟩
    exact ⟨(k, v), List.mem_of_getElem? hv, rfl⟩

theorem kGet_some {lt : κ → κ → Bool} (O : KOrd lt) {l : List (κ × ν)} (hs : Srt lt l) {j : Nat} {k : κ} {v : ν} (h : l[j]? = some (k, v)) : kGet l k = some v := by
  unfold kGet
  have hmem := List.mem_of_getElem? h
  cases hf : l.find? (fun p => decide (p.1 = k)) with
  | none =>
    have := List.find?_eq_none.1 hf (k, v) hmem
    simp at this
  | some q =>
    have hq : q.1 = k := by simpa using List.find?_some hf
    obtain ⟨i, hi⟩ := List.mem_iff_getElem?.1 (List.mem_of_find?_eq_some hf)
    have e1 := rank_of_key O hs hi
    have e2 := rank_of_key O hs h
    rw [hq] at e1
    simp only at e2
    obtain rfl : i = j := by omega
    rw [hi] at h
    cases h
    rfl

theorem kGet_none {l : List (κ × ν)} {k : κ} (h : kHas l k = false) : kGet l k = none := by
  unfold kGet
  rw [List.find?_eq_none.2]
  · rfl
  · intro p hp hk
    have : kHas l k = true := kHas_true.2 ⟨p, hp, by simpa using hk⟩
    rw [h] at this; cases this

theorem kGet_has {l : List (κ × ν)} {k : κ} : (kGet l k).isSome = kHas l k := by
  cases h : kHas l k with
  | false => rw [kGet_none h]; rfl
  | true =>
    obtain ⟨p, hp, hk⟩ := kHas_true.1 h
    unfold kGet
    cases hf : l.find? (fun p => decide (p.1 = k)) with
    | none => have := List.find?_eq_none.1 hf p hp; simp [hk] at this
    | some q => rfl

/-- The list with the key set. -/
def kSet (lt : κ → κ → Bool) (l : List (κ × ν)) (k : κ) (v : ν) : List (κ × ν) :=
  if kHas l k = true then l.set (kRank lt l k) (k, v) else l.take (kRank lt l k) ++ (k, v) :: l.drop (kRank lt l k)
/-- The list without the key. -/
def kDel (lt : κ → κ → Bool) (l : List (κ × ν)) (k : κ) : List (κ × ν) :=
  if kHas l k = true then l.take (kRank lt l k) ++ l.drop (kRank lt l k + 1) else l

theorem srt_take_drop {lt : κ → κ → Bool} (O : KOrd lt) {l : List (κ × ν)} (hs : Srt lt l) (k : κ) :
    (∀ p ∈ l.take (kRank lt l k), lt p.1 k = true) ∧ (kHas l k = false → ∀ p ∈ l.drop (kRank lt l k), lt k p.1 = true) ∧ (∀ p ∈ l.drop (kRank lt l k + 1), lt k p.1 = true ∧ p.1 ≠ k) := by
  refine ⟨?_, ?_, ?_⟩
  · intro p hp
    obtain ⟨j, hj⟩ := List.mem_iff_getElem?.1 hp
    rw [List.getElem?_take] at hj
    split at hj
    · rename_i h; rw [kRank_iff O k hs j p hj]; simpa using h
    · cases hj
  · intro hn p hp
    obtain ⟨j, hj⟩ := List.mem_iff_getElem?.1 hp
    rw [List.getElem?_drop] at hj
    have h1 := kRank_iff O k hs _ p hj
    cases h2 : lt k p.1 with
    | true => rfl
    | false =>
      have h3 : lt p.1 k = false := by rw [h1]; simp
      have := O.tot _ _ h3 h2
      have : kHas l k = true := kHas_true.2 ⟨p, List.mem_of_getElem? hj, this⟩
      rw [hn] at this; cases this
  · intro p hp
    obtain ⟨j, hj⟩ := List.mem_iff_getElem?.1 hp
    rw [List.getElem?_drop] at hj
    have h1 := kRank_iff O k hs _ p hj
    have h3 : lt p.1 k = false := by rw [h1]; simp; omega
    have hne : p.1 ≠ k := by
      rintro rfl
      have := rank_of_key O hs hj
      omega
    refine ⟨?_, hne⟩
    cases h2 : lt k p.1 with
    | true => rfl
    | false => exact absurd (O.tot _ _ h3 h2) hne

theorem has_lt {lt : κ → κ → Bool} (O : KOrd lt) {l : List (κ × ν)} (hs : Srt lt l) {k : κ} (h : kHas l k = true) : kRank lt l k < l.length := by
  obtain ⟨v, hv⟩ := (has_at_rank O hs k).1 h
  exact (List.getElem?_eq_some_iff.1 hv).1

theorem srt_set {lt : κ → κ → Bool} (O : KOrd lt) {l : List (κ × ν)} (hs : Srt lt l) (k : κ) (v : ν) : Srt lt (kSet lt l k v) := by
  have h3 := srt_take_drop O hs k
  unfold kSet
  split
  · rename_i h
    rw [set_at (has_lt O hs h)]
    exact srt_mid (srt_cut hs _) h3.1 (fun p hp => (h3.2.2 p hp).1)
  · rename_i h
    exact srt_mid (by rw [List.take_append_drop]; exact hs) h3.1 (h3.2.1 (by simpa using h))

theorem srt_del {lt : κ → κ → Bool} {l : List (κ × ν)} (hs : Srt lt l) (k : κ) : Srt lt (kDel lt l k) := by
  unfold kDel
  split
  · exact srt_cut hs _
  · exact hs

theorem kGet_append {a b : List (κ × ν)} {k : κ} (h : ∀ p ∈ a, p.1 ≠ k) : kGet (a ++ b) k = kGet b k := by
  unfold kGet
  rw [List.find?_append, List.find?_eq_none.2 (fun p hp => by simpa using h p hp)]
  rfl
theorem kGet_head {b : List (κ × ν)} {k : κ} {v : ν} : kGet ((k, v) :: b) k = some v := by simp [kGet]
theorem kGet_skip {b : List (κ × ν)} {k k' : κ} {v : ν} (h : k' ≠ k) : kGet ((k', v) :: b) k = kGet b k := by simp [kGet, h]
theorem kGet_append2 {a b c : List (κ × ν)} {k : κ} (h : kGet b k = kGet c k) : kGet (a ++ b) k = kGet (a ++ c) k := by
  induction a with
  | nil => simpa using h
  | cons p t ih =>
    by_cases hp : p.1 = k
    · obtain ⟨q, w⟩ := p
      simp only at hp; subst hp
      rw [List.cons_append, List.cons_append, kGet_head, kGet_head]
    · obtain ⟨q, w⟩ := p
      rw [List.cons_append, List.cons_append, kGet_skip hp, kGet_skip hp, ih]

theorem get_set_same {lt : κ → κ → Bool} (O : KOrd lt) {l : List (κ × ν)} (hs : Srt lt l) (k : κ) (v : ν) : kGet (kSet lt l k v) k = some v := by
  have h3 := srt_take_drop O hs k
  unfold kSet
  split
  · rename_i h
    rw [set_at (has_lt O hs h), kGet_append (fun p hp => ne_of_lt O (h3.1 p hp)), kGet_head]
  · rw [kGet_append (fun p hp => ne_of_lt O (h3.1 p hp)), kGet_head]

theorem get_set_other {lt : κ → κ → Bool} (O : KOrd lt) {l : List (κ × ν)} (hs : Srt lt l) {k k' : κ} (v : ν) (hne : k ≠ k') : kGet (kSet lt l k v) k' = kGet l k' := by
  unfold kSet
  split
  · rename_i h
    obtain ⟨u, hu⟩ := (has_at_rank O hs k).1 h
    rw [set_at (has_lt O hs h)]
    conv => rhs; rw [← List.take_append_drop (kRank lt l k) l, drop_at hu]
    exact kGet_append2 (by rw [kGet_skip hne, kGet_skip hne])
  · conv => rhs; rw [← List.take_append_drop (kRank lt l k) l]
    exact kGet_append2 (kGet_skip hne)

theorem get_del_same {lt : κ → κ → Bool} (O : KOrd lt) {l : List (κ × ν)} (hs : Srt lt l) (k : κ) : kGet (kDel lt l k) k = none := by
  have h3 := srt_take_drop O hs k
  unfold kDel
  split
  · rw [kGet_append (fun p hp => ne_of_lt O (h3.1 p hp))]
    refine kGet_none ?_
    cases h : kHas (l.drop (kRank lt l k + 1)) k with
    | false => rfl
    | true => obtain ⟨p, hp, hk⟩ := kHas_true.1 h; exact absurd hk (h3.2.2 p hp).2
  · rename_i h; exact kGet_none (by simpa using h)

theorem get_del_other {lt : κ → κ → Bool} (O : KOrd lt) {l : List (κ × ν)} (hs : Srt lt l) {k k' : κ} (hne : k ≠ k') : kGet (kDel lt l k) k' = kGet l k' := by
  unfold kDel
  split
  · rename_i h
    obtain ⟨u, hu⟩ := (has_at_rank O hs k).1 h
    conv => rhs; rw [← List.take_append_drop (kRank lt l k) l, drop_at hu]
    exact kGet_append2 (by rw [kGet_skip hne])
  · rfl

theorem len_set {lt : κ → κ → Bool} (l : List (κ × ν)) (k : κ) (v : ν) : (kSet lt l k v).length = if kHas l k = true then l.length else l.length + 1 := by
  unfold kSet
  split
  · simp
  · have := kRank_le lt l k; simp; omega

theorem len_del {lt : κ → κ → Bool} (O : KOrd lt) {l : List (κ × ν)} (hs : Srt lt l) (k : κ) : (kDel lt l k).length = if kHas l k = true then l.length - 1 else l.length := by
  unfold kDel
  split
  · rename_i h; have := has_lt O hs h; simp; omega
  · rfl
end
end Go.Proofs.Ytpnhklehpilopaa
