/- Plain mathematics: the document's way through pairs of hexadecimal digits. -/
import Derived.Test.YtcafenmkcjlhgaaDoorMath3
namespace Go.Proofs.YtcafenmkcjlhgaaDoor
open Go Go.RowKit

/-- The bytes of those pairs that are digits. -/
def phF : List Int → List Int
  | a :: b :: r => (if hvOk a && hvOk b then [hv a * 16 + hv b] else []) ++ phF r
  | _ => []

/-- What the values below K add for a pair. -/
def ins (a b : Int) (K : Nat) : List Int := if hvOk a && hvOk b && decide (hv a * 16 + hv b < K) then [hv a * 16 + hv b] else []

/-- Whether the pair is the two digits of K. -/
def cpair (a b : Int) (K : Nat) : Bool := decide (a = dgI ((K : Int) / 16)) && decide (b = dgI ((K : Int) % 16))

theorem cpair_iff {a b : Int} {K : Nat} (hK : K < 256) : cpair a b K = (hvOk a && hvOk b && decide (hv a * 16 + hv b = K)) := by
  have h1 := hv_dgI (d := (K : Int) / 16) (by omega) (by omega)
  have h2 := hv_dgI (d := (K : Int) % 16) (by omega) (by omega)
  rw [Bool.eq_iff_iff]
  simp only [cpair, Bool.and_eq_true, decide_eq_true_eq]
  constructor
  · rintro ⟨rfl, rfl⟩
    refine ⟨⟨h1.1, h2.1⟩, ?_⟩
    rw [h1.2, h2.2]
    omega
  · rintro ⟨⟨ha, hb⟩, h⟩
    have ra := hv_rng a
    have rb := hv_rng b
    have ea := dgI_hv ha
    have eb := dgI_hv hb
    refine ⟨?_, ?_⟩
    · rw [show (K : Int) / 16 = hv a by omega, ea]
    · rw [show (K : Int) % 16 = hv b by omega, eb]

theorem ins_zero (a b : Int) : ins a b 0 = [] := by
  have ra := hv_rng a
  have rb := hv_rng b
  unfold ins
  rw [if_neg]
  simp only [Bool.and_eq_true, decide_eq_true_eq]
  omega

theorem ins_hit {a b : Int} {K : Nat} (hK : K < 256) (h : cpair a b K = true) : ins a b K = [] ∧ ins a b (K + 1) = [(K : Int)] := by
  rw [cpair_iff hK] at h
  simp only [Bool.and_eq_true, decide_eq_true_eq] at h
  unfold ins
  refine ⟨?_, ?_⟩
  · rw [if_neg]
    simp only [Bool.and_eq_true, decide_eq_true_eq]
    omega
  · rw [if_pos, h.2]
    simp only [Bool.and_eq_true, decide_eq_true_eq]
    exact ⟨h.1, by omega⟩

theorem ins_miss {a b : Int} {K : Nat} (hK : K < 256) (h : cpair a b K = false) : ins a b (K + 1) = ins a b K := by
  rw [cpair_iff hK] at h
  unfold ins
  cases hab : hvOk a && hvOk b with
  | false => simp only [Bool.false_and]
  | true =>
    rw [hab, Bool.true_and, decide_eq_false_iff_not] at h
    congr 1
    rw [Bool.true_and, Bool.true_and, decide_eq_true_eq, decide_eq_true_eq, eq_iff_iff]
    omega

theorem ins_all (a b : Int) : ins a b 256 = if hvOk a && hvOk b then [hv a * 16 + hv b] else [] := by
  have ra := hv_rng a
  have rb := hv_rng b
  unfold ins
  rw [decide_eq_true (show hv a * 16 + hv b < ((256 : Nat) : Int) by omega), Bool.and_true]

theorem ins_length (a b : Int) (K : Nat) : (ins a b K).length ≤ 1 := by
  unfold ins; split <;> simp

theorem phF_even (x y : List Int) (h : x.length % 2 = 0) : phF (x ++ y) = phF x ++ phF y := by
  match x, h with
  | [], _ => rfl
  | [_], h => simp at h
  | a :: b :: r, h =>
    simp only [List.cons_append, phF]
    rw [phF_even r y (by simp only [List.length_cons] at h; omega), List.append_assoc]

theorem phF_step (l : List Int) (k : Nat) (h : 2 * k + 1 < l.length) : phF (l.take (2 * (k + 1))) = phF (l.take (2 * k)) ++ ins (l.getD (2 * k) 0) (l.getD (2 * k + 1) 0) 256 := by
  rw [take_two l k h, phF_even _ _ (by rw [List.length_take]; omega), ins_all]
  simp [phF]

theorem phF_le (l : List Int) : 2 * (phF l).length ≤ l.length := by
  match l with
  | [] => exact Nat.le_refl _
  | [_] => exact Nat.zero_le _
  | a :: b :: r =>
    have := phF_le r
    simp only [phF, List.length_append, List.length_cons]
    split
    · simp only [List.length_cons, List.length_nil]; omega
    · simp only [List.length_nil]; omega

theorem phF_ok (l : List Int) (h : phOk l = true) : phF l = phV l := by
  match l, h with
  | [], _ => rfl
  | [_], h => simp [phOk] at h
  | a :: b :: r, h =>
    simp only [phOk, Bool.and_eq_true] at h
    simp only [phF, phV, h.1.1, h.1.2, Bool.and_self, if_true]
    rw [phF_ok r h.2]
    rfl

theorem phF_bad (l : List Int) (h : phOk l = false) : 2 * (phF l).length ≠ l.length := by
  match l, h with
  | [_], _ => simp [phF]
  | a :: b :: r, h =>
    have hle := phF_le r
    simp only [phF, List.length_append, List.length_cons]
    cases hab : hvOk a && hvOk b with
    | false => simp only [Bool.false_eq_true, if_false, List.length_nil]; omega
    | true =>
      simp only [phOk, hab, Bool.true_and] at h
      have := phF_bad r h
      simp only [if_true, List.length_cons, List.length_nil]
      omega

/-- What lies behind the last whole pair adds nothing. -/
theorem phF_last (l : List Int) (k : Nat) (h : l.length ≤ 2 * k + 1) (hk : 2 * k ≤ l.length) : phF (l.take (2 * k)) = phF l := by
  have e := List.take_append_drop (2 * k) l
  have h2 : (l.drop (2 * k)).length ≤ 1 := by rw [List.length_drop]; omega
  have h3 : phF (l.drop (2 * k)) = [] := by
    match hd : l.drop (2 * k), h2 with
    | [], _ => rfl
    | [_], _ => rfl
    | _ :: _ :: _, h2 => simp at h2
  rw [← e, phF_even _ _ (by rw [List.length_take]; omega), h3, List.append_nil, e]
end Go.Proofs.YtcafenmkcjlhgaaDoor
