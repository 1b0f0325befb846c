/- Plain mathematics: decimal strings. -/
import Derived.Test.YtjadlianlnaomaaDoorMath
import Derived.Lib.ParseIntBCases
import Derived.Lib.ItoaNum
namespace Go.Proofs.YtjadlianlnaomaaDoor
open Go Go.RowKit

def digB (c : UInt8) : Bool := decide (48 ≤ c.toNat) && decide (c.toNat ≤ 57)

/-- Whether bytes are a decimal string: digits, at least one, no zero ahead of other digits. -/
def decOk (l : List UInt8) : Bool := !l.isEmpty && !(l.getD 0 0 == 48 && decide (1 < l.length)) && l.all digB

/-- The number that digits spell behind others that spell acc. -/
def decN (acc : Nat) : List UInt8 → Nat
  | [] => acc
  | c :: r => decN (acc * 10 + (c.toNat - 48)) r

theorem decN_le (l : List UInt8) : ∀ acc, acc ≤ decN acc l := by
  induction l with
  | nil => intro acc; exact Nat.le_refl _
  | cons c r ih => intro acc; exact Nat.le_trans (by omega) (ih (acc * 10 + (c.toNat - 48)))

theorem decN_append (a b : List UInt8) : ∀ acc, decN acc (a ++ b) = decN (decN acc a) b := by
  induction a with
  | nil => intro acc; rfl
  | cons c r ih => intro acc; exact ih _

theorem parseUintM_cons (M acc : Nat) (c : UInt8) (r : List UInt8) (hc : 48 ≤ c.toNat ∧ c.toNat ≤ 57) :
    ∃ T, T = 1844674407370955162 ∧ Lib.parseUintM M acc (c :: r) = (if T ≤ acc then .range else if M < acc * 10 + (c.toNat - 48) then .range else Lib.parseUintM M (acc * 10 + (c.toNat - 48)) r) :=
  ⟨_, rfl, by rw [Lib.parseUintM, if_pos hc]⟩

theorem parseUintM_dec (M : Nat) (hM : M = 18446744073709551615) (l : List UInt8) (h : l.all digB = true) : ∀ acc, Lib.parseUintM M acc l = if l = [] then .ok acc else if decN acc l ≤ M then .ok (decN acc l) else .range := by
  induction l with
  | nil => intro acc; simp [Lib.parseUintM]
  | cons c r ih =>
    intro acc
    simp only [List.all_cons, Bool.and_eq_true] at h
    have hc := h.1
    simp only [digB, Bool.and_eq_true, decide_eq_true_eq] at hc
    have hle := decN_le r (acc * 10 + (c.toNat - 48))
    obtain ⟨T, hT, e⟩ := parseUintM_cons M acc c r hc
    rw [e, if_neg (List.cons_ne_nil c r), ih h.2]
    show _ = if decN (acc * 10 + (c.toNat - 48)) r ≤ M then Lib.NumEnd.ok (decN (acc * 10 + (c.toNat - 48)) r) else Lib.NumEnd.range
    by_cases h1 : T ≤ acc
    · have h3 : ¬ decN (acc * 10 + (c.toNat - 48)) r ≤ M := by omega
      rw [if_pos h1, if_neg h3]
    · rw [if_neg h1]
      by_cases h2 : M < acc * 10 + (c.toNat - 48)
      · have h3 : ¬ decN (acc * 10 + (c.toNat - 48)) r ≤ M := by omega
        rw [if_pos h2, if_neg h3]
      · rw [if_neg h2]
        by_cases hr : r = []
        · subst hr
          have h3 : decN (acc * 10 + (c.toNat - 48)) [] ≤ M := by show acc * 10 + (c.toNat - 48) ≤ M; omega
          rw [if_pos rfl, if_pos h3]
          rfl
        · rw [if_neg hr]

theorem parseUintB_dec (l : List UInt8) (h : l.all digB = true) (hne : l ≠ []) : Lib.parseUintB 64 l = if decN 0 l ≤ 18446744073709551615 then .ok (decN 0 l) else .range := by
  obtain ⟨M, hM⟩ : ∃ M, M = 18446744073709551615 := ⟨_, rfl⟩
  have h2 := parseUintM_dec M hM l h 0
  rw [if_neg hne] at h2
  unfold Lib.parseUintB
  rw [if_neg hne, show 2 ^ 64 - 1 = M by rw [hM]]
  rw [← hM]
  exact h2

/-- What ParseDigits returns: the number and the error. -/
def pdRes (l : List UInt8) : Int × Int := if decOk l then (if decN 0 l ≤ 18446744073709551615 then ((decN 0 l : Nat), 0) else (0, 16)) else (0, 8)

theorem decOk_all {l : List UInt8} (h : decOk l = true) : l.all digB = true ∧ l ≠ [] := by
  simp only [decOk, Bool.and_eq_true] at h
  refine ⟨h.2, ?_⟩
  rintro rfl
  simp at h

theorem take_all (l : List UInt8) (k : Nat) (h : k < l.length) (ht : (l.take k).all digB = true) : (l.take (k + 1)).all digB = digB l[k] := by
  rw [List.take_succ_eq_append_getElem h, List.all_append, ht]
  simp

theorem all_false (l : List UInt8) (k : Nat) (h : k < l.length) (hd : digB l[k] = false) : l.all digB = false := by
  rw [← Bool.not_eq_true, List.all_eq_true]
  intro hall
  have := hall l[k] (List.getElem_mem h)
  rw [hd] at this
  cases this
end Go.Proofs.YtjadlianlnaomaaDoor
