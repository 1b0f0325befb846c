/- Plain mathematics: what the next key is. -/
import Derived.Test.YtogkabdampkbjaaDoorKeyMath2
namespace Go.Proofs.YtogkabdampkbjaaDoor
open Go Go.RowKit

theorem kpl_max {x : Int} (h0 : ¬ kpl x < 38) : x = 122 := by
  unfold kpl at h0
  (repeat' split at h0) <;> omega

theorem nxtAt_some (l : List Int) : ∀ (i : Nat) (n : List Int), i ≤ l.length → (∀ c ∈ l.drop i, c = 122) → nxtAt l i = some n →
    ∃ p x z, l = p ++ x :: z ∧ kpl x < 38 ∧ (∀ c ∈ z, c = 122) ∧ n = p ++ [keyL.getD (kpl x + 1).toNat 0]
  | 0, n, _, _, h => by simp [nxtAt] at h
  | i + 1, n, hi, hz, h => by
    unfold nxtAt at h
    have hil : i < l.length := by omega
    have hx : l.getD i 0 = l[i] := by simp [List.getD, hil]
    split at h
    · rename_i hk
      refine ⟨l.take i, l.getD i 0, l.drop (i + 1), ?_, hk, hz, (Option.some.inj h).symm⟩
      rw [hx, List.getElem_cons_drop, List.take_append_drop]
    · rename_i hk
      refine nxtAt_some l i n (by omega) ?_ h
      intro c hc
      rw [← List.getElem_cons_drop hil] at hc
      rcases List.mem_cons.1 hc with rfl | hc
      · rw [← hx]; exact kpl_max hk
      · exact hz c hc

theorem nxtAt_none (l : List Int) : ∀ (i : Nat), i ≤ l.length → (∀ c ∈ l.drop i, c = 122) → nxtAt l i = none → ∀ c ∈ l, c = 122
  | 0, _, hz, _ => by simpa using hz
  | i + 1, hi, hz, h => by
    unfold nxtAt at h
    have hil : i < l.length := by omega
    have hx : l.getD i 0 = l[i] := by simp [List.getD, hil]
    split at h
    · cases h
    · rename_i hk
      refine nxtAt_none l i (by omega) ?_ h
      intro c hc
      rw [← List.getElem_cons_drop hil] at hc
      rcases List.mem_cons.1 hc with rfl | hc
      · rw [← hx]; exact kpl_max hk
      · exact hz c hc

theorem all_max (l : List Int) (hz : ∀ c ∈ l, c = 122) : ∀ i, i ≤ l.length → nxtAt l i = none
  | 0, _ => rfl
  | i + 1, hi => by
    unfold nxtAt
    have hil : i < l.length := by omega
    have hx : l.getD i 0 = l[i] := by simp [List.getD, hil]
    rw [hx, hz _ (List.getElem_mem hil), if_neg (by decide)]
    exact all_max l hz i (by omega)

theorem next_some (l n : List Int) (h : IsKey l) (hn : kNext l = some n) : IsKey n ∧ ordL l n = -1 ∧ ∀ t, IsKey t → ordL t l ≤ 0 ∨ ordL n t ≤ 0 := by
  unfold kNext at hn
  rw [if_neg (by rw [(kCheck_key l).2 h]; simp)] at hn
  by_cases hs : l.length < 32
  · rw [if_pos hs] at hn
    obtain rfl := Option.some.inj hn
    refine ⟨⟨by simp, by simp; omega, fun c hc => ?_⟩, (next_short l [] (by simp)).1, fun t ht => (next_short l t ht.ch).2⟩
    rcases List.mem_append.1 hc with hc | hc
    · exact h.ch c hc
    · rw [List.mem_singleton.1 hc]; decide
  · rw [if_neg hs] at hn
    obtain ⟨p, x, z, rfl, hk, hz, rfl⟩ := nxtAt_some l l.length n (Nat.le_refl _) (by simp) hn
    have hle := h.le
    have hlen : (p ++ x :: z).length = p.length + (z.length + 1) := by simp
    have hx0 := h.ch x (by simp)
    refine ⟨⟨by simp, by simp; omega, fun c hc => ?_⟩, (next_long p z [] x hx0 hk hz (by simp) (by simp)).1, fun t ht => (next_long p z t x hx0 hk hz ht.ch (by have := ht.le; omega)).2⟩
    rcases List.mem_append.1 hc with hc | hc
    · exact h.ch c (by simp [hc])
    · rw [List.mem_singleton.1 hc, keyL_next x hx0 hk]; omega

theorem next_none (l : List Int) (h : IsKey l) : kNext l = none ↔ l = List.replicate 32 122 := by
  unfold kNext
  rw [if_neg (by rw [(kCheck_key l).2 h]; simp)]
  by_cases hs : l.length < 32
  · rw [if_pos hs]
    constructor
    · intro h2; cases h2
    · intro h2; rw [h2] at hs; simp at hs
  · rw [if_neg hs]
    have hl : l.length = 32 := by have := h.le; omega
    constructor
    · intro h2
      have h3 := nxtAt_none l l.length (Nat.le_refl _) (by simp) h2
      exact List.eq_replicate_iff.2 ⟨hl, h3⟩
    · intro h2
      exact all_max l (List.eq_replicate_iff.1 h2).2 l.length (Nat.le_refl _)

theorem max_le (t : List Int) (ht : IsKey t) : ordL t (List.replicate 32 122) ≤ 0 :=
  all_z _ t (fun _ hc => (List.mem_replicate.1 hc).2) ht.ch (by rw [List.length_replicate]; exact ht.le)
end Go.Proofs.YtogkabdampkbjaaDoor
