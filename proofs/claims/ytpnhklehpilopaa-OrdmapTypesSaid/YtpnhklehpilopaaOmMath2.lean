/- Keys that are not greater. Plain mathematics. -/
import Derived.Test.YtpnhklehpilopaaOmMath
namespace Go.Proofs.Ytpnhklehpilopaa

section
variable {κ ν : Type} [DecidableEq κ]

/-- How many keys are not greater than k. -/
def kUp (lt : κ → κ → Bool) (l : List (κ × ν)) (k : κ) : Nat := kRank lt l k + if kHas l k = true then 1 else 0

theorem kUp_le {lt : κ → κ → Bool} (O : KOrd lt) {l : List (κ × ν)} (hs : Srt lt l) (k : κ) : kUp lt l k ≤ l.length := by
  unfold kUp
  split
  · have := has_lt O hs (k := k) (by assumption); omega
  · have := kRank_le lt l k; omega

theorem kUp_iff {lt : κ → κ → Bool} (O : KOrd lt) {l : List (κ × ν)} (hs : Srt lt l) (k : κ) (j : Nat) (x : κ × ν) (hx : l[j]? = some x) : lt k x.1 = decide (kUp lt l k ≤ j) := by
  have h3 := srt_take_drop O hs k
  have hj : j < l.length := (List.getElem?_eq_some_iff.1 hx).1
  rcases Nat.lt_or_ge j (kRank lt l k) with h | h
  · have h1 := kRank_iff O k hs j x hx
    have h2 : lt x.1 k = true := by rw [h1]; simpa using h
    have h4 : lt k x.1 = false := by
      cases hk : lt k x.1 with
      | false => rfl
      | true => have := O.tra _ _ _ h2 hk; rw [O.irr] at this; cases this
    rw [h4]
    have : ¬ kUp lt l k ≤ j := by unfold kUp; omega
    simp [this]
  · by_cases hh : kHas l k = true
    · have e : kUp lt l k = kRank lt l k + 1 := by unfold kUp; rw [if_pos hh]
      rw [e]
      rcases Nat.eq_or_lt_of_le h with h5 | h5
      · obtain ⟨v, hv⟩ := (has_at_rank O hs k).1 hh
        rw [h5, hx] at hv
        cases hv
        rw [O.irr]
        have : ¬ kRank lt l k + 1 ≤ j := by omega
        simp [this]
      · have : x ∈ l.drop (kRank lt l k + 1) := List.mem_iff_getElem?.2 ⟨j - (kRank lt l k + 1), by rw [List.getElem?_drop]; rw [show kRank lt l k + 1 + (j - (kRank lt l k + 1)) = j by omega]; exact hx⟩
        rw [(h3.2.2 x this).1]
        have : kRank lt l k + 1 ≤ j := by omega
        simp [this]
    · have e : kUp lt l k = kRank lt l k := by unfold kUp; rw [if_neg hh]; rfl
      rw [e]
      have : x ∈ l.drop (kRank lt l k) := List.mem_iff_getElem?.2 ⟨j - kRank lt l k, by rw [List.getElem?_drop]; rw [show kRank lt l k + (j - kRank lt l k) = j by omega]; exact hx⟩
      rw [h3.2.1 (by simpa using hh) x this]
      simp [h]
end
end Go.Proofs.Ytpnhklehpilopaa
