/- Plain mathematics: decimal strings and back. -/
import Derived.Test.YtjadlianlnaomaaDoorMath2
import Derived.Lib.ItoaLen
namespace Go.Proofs.YtjadlianlnaomaaDoor
open Go Go.RowKit

theorem dec_step (n d : Nat) (hn : 1 ≤ n) (hd : d < 10) : Lib.decDigits (10 * n + d) = Lib.decDigits n ++ [UInt8.ofNat (48 + d)] := by
  rw [Lib.decDigits, dif_neg (by omega), show (10 * n + d) / 10 = n by omega, show (10 * n + d) % 10 = d by omega]

theorem digB_of (d : Nat) (hd : d < 10) : digB (UInt8.ofNat (48 + d)) = true ∧ (UInt8.ofNat (48 + d)).toNat = 48 + d := by
  have e : (UInt8.ofNat (48 + d)).toNat = 48 + d := by
    rw [UInt8.toNat_ofNat']; omega
  refine ⟨?_, e⟩
  simp only [digB, e, Bool.and_eq_true, decide_eq_true_eq]
  omega

/-- The digits of a number: all digits, at least one; the first one is a zero for 0 alone; they spell the number. -/
theorem dec_facts (u : Nat) : (Lib.decDigits u).all digB = true ∧ Lib.decDigits u ≠ [] ∧ (1 ≤ u → ((Lib.decDigits u).getD 0 0).toNat ≠ 48) ∧ decN 0 (Lib.decDigits u) = u := by
  by_cases h : u < 10
  · have e : Lib.decDigits u = [UInt8.ofNat (48 + u)] := Lib.decDigits_one h
    have hd := digB_of u h
    rw [e]
    refine ⟨by rw [List.all_cons, hd.1]; rfl, by simp, fun h1 => ?_, ?_⟩
    · show (UInt8.ofNat (48 + u)).toNat ≠ 48
      rw [hd.2]; omega
    · show 0 * 10 + ((UInt8.ofNat (48 + u)).toNat - 48) = u
      rw [hd.2]; omega
  · have ih := dec_facts (u / 10)
    have hd := digB_of (u % 10) (Nat.mod_lt _ (by decide))
    have e : Lib.decDigits u = Lib.decDigits (u / 10) ++ [UInt8.ofNat (48 + u % 10)] := by
      have := dec_step (u / 10) (u % 10) (by omega) (Nat.mod_lt _ (by decide))
      rwa [show 10 * (u / 10) + u % 10 = u by omega] at this
    obtain ⟨h1, h2, h3, h4⟩ := ih
    refine ⟨?_, ?_, fun _ => ?_, ?_⟩
    · rw [e, List.all_append, h1, List.all_cons, hd.1]; rfl
    · rw [e]; simp
    · rw [e]
      have := h3 (by omega)
      cases hl : Lib.decDigits (u / 10) with
      | nil => exact absurd hl h2
      | cons a r => rw [hl] at this; exact this
    · rw [e, decN_append, h4]
      show u / 10 * 10 + ((UInt8.ofNat (48 + u % 10)).toNat - 48) = u
      rw [hd.2]; omega

theorem decOk_dec (u : Nat) : decOk (Lib.decDigits u) = true := by
  obtain ⟨h1, h2, h3, _⟩ := dec_facts u
  simp only [decOk, h1, Bool.and_true, Bool.and_eq_true]
  refine ⟨?_, ?_⟩
  · cases h : Lib.decDigits u with
    | nil => exact absurd h h2
    | cons a r => rfl
  · by_cases hu : 1 ≤ u
    · have h4 := h3 hu
      have : ((Lib.decDigits u).getD 0 0 == 48) = false := by
        rw [beq_eq_false_iff_ne]
        intro he
        rw [he] at h4
        exact h4 rfl
      rw [this]; rfl
    · have : u = 0 := by omega
      subst this
      rw [Lib.decDigits_one (by decide)]; rfl

theorem pd_dec (u : Nat) (h : u ≤ 18446744073709551615) : pdRes (Lib.decDigits u) = ((u : Int), 0) := by
  unfold pdRes
  rw [if_pos (decOk_dec u), (dec_facts u).2.2.2, if_pos h]

/-- A further digit. -/
theorem pd_more (n d : Nat) (hd : d < 10) : pdRes (Lib.decDigits n ++ [UInt8.ofNat (48 + d)]) = if n = 0 then (0, 8) else if 10 * n + d ≤ 18446744073709551615 then (((10 * n + d : Nat) : Int), 0) else (0, 16) := by
  by_cases hn : n = 0
  · subst hn
    rw [if_pos rfl, Lib.decDigits_one (by decide)]
    rfl
  · rw [if_neg hn, ← dec_step n d (by omega) hd]
    unfold pdRes
    rw [if_pos (decOk_dec _), (dec_facts _).2.2.2]

/-- A string that is decoded is the one of its number. -/
theorem dec_back (l : List UInt8) (h : decOk l = true) : Lib.decDigits (decN 0 l) = l := by
  obtain ⟨hall, hne⟩ := decOk_all h
  have key : ∀ (k : Nat) (l : List UInt8), l.length = k → l.all digB = true → l ≠ [] → (l.length = 1 ∨ (l.getD 0 0).toNat ≠ 48) → Lib.decDigits (decN 0 l) = l := by
    intro k
    induction k with
    | zero => intro l hl _ hne _; exact absurd (List.eq_nil_of_length_eq_zero hl) hne
    | succ k ih =>
      intro l hl hall hne hhd
      obtain ⟨r, c, rfl⟩ : ∃ r c, l = r ++ [c] := ⟨l.dropLast, l.getLast hne, (List.dropLast_concat_getLast hne).symm⟩
      rw [List.all_append, Bool.and_eq_true] at hall
      have hc : digB c = true := by simpa using hall.2
      simp only [digB, Bool.and_eq_true, decide_eq_true_eq] at hc
      have ec : UInt8.ofNat (48 + (c.toNat - 48)) = c := by
        rw [show 48 + (c.toNat - 48) = c.toNat by omega]; simp
      by_cases hr : r = []
      · subst hr
        show Lib.decDigits (0 * 10 + (c.toNat - 48)) = [c]
        rw [Nat.zero_mul, Nat.zero_add, Lib.decDigits_one (by omega), ec]
      · have hrl : r.length = k := by simpa using hl
        have hg : (r ++ [c]).getD 0 0 = r.getD 0 0 := by
          cases r with
          | nil => exact absurd rfl hr
          | cons a t => rfl
        have hrpos : 1 ≤ r.length := by
          cases r with
          | nil => exact absurd rfl hr
          | cons a t => simp
        have h48 : (r.getD 0 0).toNat ≠ 48 := by
          rcases hhd with h1 | h1
          · rw [List.length_append] at h1; change r.length + 1 = 1 at h1; omega
          · rwa [hg] at h1
        have ihr := ih r hrl hall.1 hr (Or.inr h48)
        have hpos : 1 ≤ decN 0 r := by
          rcases Nat.eq_zero_or_pos (decN 0 r) with h0 | h0
          · rw [h0, Lib.decDigits_one (by decide)] at ihr
            rw [← ihr] at h48
            exact absurd rfl h48
          · exact h0
        rw [decN_append]
        show Lib.decDigits (decN 0 r * 10 + (c.toNat - 48)) = r ++ [c]
        rw [Nat.mul_comm, dec_step _ _ hpos (by omega), ihr, ec]
  refine key l.length l rfl hall hne ?_
  simp only [decOk, Bool.and_eq_true, Bool.not_eq_true', Bool.and_eq_false_iff, decide_eq_false_iff_not] at h
  rcases h.1.2 with h1 | h1
  · right
    intro h48
    rw [beq_eq_false_iff_ne] at h1
    exact h1 (UInt8.toNat_inj.1 h48)
  · left
    have : 1 ≤ l.length := by
      cases l with
      | nil => exact absurd rfl hne
      | cons a t => simp
    omega

end Go.Proofs.YtjadlianlnaomaaDoor
