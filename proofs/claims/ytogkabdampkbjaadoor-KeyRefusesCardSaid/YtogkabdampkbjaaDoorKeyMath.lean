/- Plain mathematics: keys. -/
import Derived.Test.YtogkabdampkbjaaDoorStr
namespace Go.Proofs.YtogkabdampkbjaaDoor
open Go Go.RowKit

/-- The key characters, in order. -/
def keyL : List Int := [45, 46, 48, 49, 50, 51, 52, 53, 54, 55, 56, 57, 95, 97, 98, 99, 100, 101, 102, 103, 104, 105, 106, 107, 108, 109, 110, 111, 112, 113, 114, 115, 116, 117, 118, 119, 120, 121, 122]

/-- The place of a byte among them; -1: it is none. -/
def kpl (c : Int) : Int := if c = 45 then 0 else if c = 46 then 1 else if 48 ≤ c ∧ c ≤ 57 then c - 46 else if c = 95 then 12 else if 97 ≤ c ∧ c ≤ 122 then c - 84 else -1

theorem kpl_keyL : ∀ i : Fin 39, kpl (keyL.getD i.val 0) = (i.val : Int) := by decide +kernel

theorem keyL_kpl (c : Int) (h : 0 ≤ kpl c) : kpl c < 39 ∧ keyL.getD (kpl c).toNat 0 = c := by
  unfold kpl at h ⊢
  split at h
  · subst_vars; decide
  split at h
  · subst_vars; decide
  split at h
  · rename_i h1 h2 h3
    rw [if_neg h1, if_neg h2, if_pos h3]
    have h4 : c = 48 ∨ c = 49 ∨ c = 50 ∨ c = 51 ∨ c = 52 ∨ c = 53 ∨ c = 54 ∨ c = 55 ∨ c = 56 ∨ c = 57 := by omega
    rcases h4 with rfl | rfl | rfl | rfl | rfl | rfl | rfl | rfl | rfl | rfl <;> decide
  split at h
  · subst_vars; decide
  split at h
  · rename_i h1 h2 h3 h4 h5
    rw [if_neg h1, if_neg h2, if_neg h3, if_neg h4, if_pos h5]
    obtain ⟨k, hk⟩ : ∃ k : Nat, c = 97 + (k : Int) := ⟨(c - 97).toNat, by omega⟩
    have hk26 : k < 26 := by omega
    subst hk
    have key : ∀ k : Fin 26, (97 + (k.val : Int) - 84 < 39) ∧ keyL.getD (97 + (k.val : Int) - 84).toNat 0 = 97 + (k.val : Int) := by decide +kernel
    exact key ⟨k, hk26⟩
  · omega

/-- Is a byte a key character? -/
def isK (c : Int) : Bool := decide (0 ≤ kpl c)

/-- What Check returns. -/
def kCheck (l : List Int) : Int := if l = [] then 2 else if l.all isK = false then 2 else if 32 < l.length then 12 else 0

/-- What Fits returns. -/
def kFits (l : List Int) (m : Int) : Int := if m < 1 ∨ 32 < m then 2 else if kCheck l = 0 ∧ m < (l.length : Int) then 12 else kCheck l

/-- The length of the longest common prefix. -/
def comL : List Int → List Int → Nat
  | x :: a, y :: b => if x = y then comL a b + 1 else 0
  | _, _ => 0

theorem comL_le (a b : List Int) : comL a b ≤ a.length ∧ comL a b ≤ b.length := by
  induction a generalizing b with
  | nil => simp [comL]
  | cons x a ih =>
    cases b with
    | nil => simp [comL]
    | cons y b =>
      unfold comL
      split
      · have := ih b; simp only [List.length_cons]; omega
      · simp

theorem comL_at (a b : List Int) (i : Nat) (h : i < comL a b) : a.getD i 0 = b.getD i 0 := by
  induction a generalizing b i with
  | nil => simp [comL] at h
  | cons x a ih =>
    cases b with
    | nil => simp [comL] at h
    | cons y b =>
      unfold comL at h
      split at h
      · rename_i e
        cases i with
        | zero => simpa using e
        | succ i => simpa using ih b i (by omega)
      · omega

theorem comL_stop (a b : List Int) (ha : comL a b < a.length) (hb : comL a b < b.length) : a.getD (comL a b) 0 ≠ b.getD (comL a b) 0 := by
  induction a generalizing b with
  | nil => simp at ha
  | cons x a ih =>
    cases b with
    | nil => simp at hb
    | cons y b =>
      by_cases e : x = y
      · have h1 : comL (x :: a) (y :: b) = comL a b + 1 := by show (if x = y then _ else _) = _; rw [if_pos e]
        rw [h1] at ha hb ⊢
        simp only [List.length_cons] at ha hb
        simpa using ih b (by omega) (by omega)
      · have h1 : comL (x :: a) (y :: b) = 0 := by show (if x = y then _ else _) = _; rw [if_neg e]
        rw [h1]
        simpa using e

theorem comL_comm (a b : List Int) : comL a b = comL b a := by
  induction a generalizing b with
  | nil => cases b <;> rfl
  | cons x a ih =>
    cases b with
    | nil => rfl
    | cons y b =>
      show (if x = y then _ else _) = (if y = x then _ else _)
      by_cases e : x = y
      · rw [if_pos e, if_pos e.symm, ih]
      · rw [if_neg e, if_neg (fun h => e h.symm)]

/-- The order. -/
def ordL : List Int → List Int → Int
  | [], [] => 0
  | [], _ :: _ => -1
  | _ :: _, [] => 1
  | x :: a, y :: b => if x < y then -1 else if y < x then 1 else ordL a b

/-- The order by the common prefix, as the document's function has it. -/
theorem ordL_com (a b : List Int) : ordL a b = if comL a b = a.length ∧ comL a b = b.length then 0 else if comL a b = a.length ∨ (comL a b < b.length ∧ a.getD (comL a b) 0 < b.getD (comL a b) 0) then -1 else 1 := by
  induction a generalizing b with
  | nil =>
    cases b with
    | nil => rfl
    | cons y b => simp [ordL, comL]
  | cons x a ih =>
    cases b with
    | nil => simp [ordL, comL]
    | cons y b =>
      show (if x < y then _ else if y < x then _ else ordL a b) = _
      by_cases e : x = y
      · have h1 : comL (x :: a) (y :: b) = comL a b + 1 := by show (if x = y then _ else _) = _; rw [if_pos e]
        rw [if_neg (by omega), if_neg (by omega), ih, h1]
        simp
      · have h1 : comL (x :: a) (y :: b) = 0 := by show (if x = y then _ else _) = _; rw [if_neg e]
        rw [h1]
        by_cases h2 : x < y
        · rw [if_pos h2]; simp [h2]
        · rw [if_neg h2, if_pos (by omega)]; simp [h2]

/-- From a key of the greatest length to the next one: the last character that is not the greatest one is replaced, and what follows is removed. -/
def nxtAt (l : List Int) : Nat → Option (List Int)
  | 0 => none
  | i + 1 => if kpl (l.getD i 0) < 38 then some (l.take i ++ [keyL.getD (kpl (l.getD i 0) + 1).toNat 0]) else nxtAt l i

/-- What Next returns. -/
def kNext (l : List Int) : Option (List Int) := if kCheck l ≠ 0 then none else if l.length < 32 then some (l ++ [45]) else nxtAt l l.length
end Go.Proofs.YtogkabdampkbjaaDoor
