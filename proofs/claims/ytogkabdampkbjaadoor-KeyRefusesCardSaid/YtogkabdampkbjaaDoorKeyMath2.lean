/- Plain mathematics: the order of keys, and the next one. -/
import Derived.Test.YtogkabdampkbjaaDoorKeyMath
namespace Go.Proofs.YtogkabdampkbjaaDoor
open Go Go.RowKit

theorem ordL_rng (a b : List Int) : ordL a b = -1 ∨ ordL a b = 0 ∨ ordL a b = 1 := by
  induction a generalizing b with
  | nil => cases b <;> simp [ordL]
  | cons x a ih =>
    cases b with
    | nil => simp [ordL]
    | cons y b =>
      unfold ordL
      split
      · simp
      · split
        · simp
        · exact ih b

theorem ordL_neg (a b : List Int) : ordL b a = - ordL a b := by
  induction a generalizing b with
  | nil => cases b <;> simp [ordL]
  | cons x a ih =>
    cases b with
    | nil => simp [ordL]
    | cons y b =>
      unfold ordL
      by_cases h1 : x < y
      · rw [if_pos h1, if_neg (by omega), if_pos h1]; rfl
      · by_cases h2 : y < x
        · rw [if_pos h2, if_neg h1, if_pos h2]
        · rw [if_neg h1, if_neg h2, if_neg h2, if_neg h1]; exact ih b

theorem ordL_cons (x y : Int) (a b : List Int) : ordL (x :: a) (y :: b) = if x < y then -1 else if y < x then 1 else ordL a b := rfl

theorem ordL_self (a : List Int) : ordL a a = 0 := by
  induction a with
  | nil => rfl
  | cons x a ih => unfold ordL; rw [if_neg (by omega), if_neg (by omega)]; exact ih

theorem ordL_zero {a b : List Int} (h : ordL a b = 0) : a = b := by
  induction a generalizing b with
  | nil => cases b with
    | nil => rfl
    | cons y b => simp [ordL] at h
  | cons x a ih =>
    cases b with
    | nil => simp [ordL] at h
    | cons y b =>
      unfold ordL at h
      split at h
      · cases h
      · split at h
        · cases h
        · rw [ih h, show x = y by omega]

/-- Less or equal, and less. -/
theorem ordL_trans (a b c : List Int) : ordL a b ≤ 0 → ordL b c ≤ 0 → ordL a c ≤ 0 ∧ (ordL a b < 0 → ordL a c < 0) ∧ (ordL b c < 0 → ordL a c < 0) := by
  induction a generalizing b c with
  | nil =>
    intro h1 h2
    cases b with
    | nil => cases c <;> simp [ordL]
    | cons y b =>
      cases c with
      | nil => simp [ordL] at h2
      | cons z c => simp [ordL]
  | cons x a ih =>
    intro h1 h2
    cases b with
    | nil => simp [ordL] at h1
    | cons y b =>
      cases c with
      | nil => simp [ordL] at h2
      | cons z c =>
        simp only [ordL_cons] at *
        by_cases e1 : x < y
        · by_cases e2 : y < z
          · rw [if_pos (by omega)]; simp
          · rw [if_neg e2] at h2
            by_cases e3 : z < y
            · rw [if_pos e3] at h2; omega
            · rw [if_pos (by omega)]; simp
        · rw [if_neg e1] at h1
          by_cases e2 : y < x
          · rw [if_pos e2] at h1; omega
          · rw [if_neg e2] at h1
            have exy : x = y := by omega
            subst exy
            by_cases e3 : x < z
            · rw [if_pos e3]; simp
            · by_cases e4 : z < x
              · rw [if_neg e3, if_pos e4] at h2; omega
              · rw [if_neg e3, if_neg e4] at h2
                rw [if_neg e3, if_neg e4, if_neg (by omega), if_neg (by omega), if_neg e3, if_neg e4]
                exact ih b c h1 h2

/-- A common head does not matter. -/
theorem ordL_head (p a b : List Int) : ordL (p ++ a) (p ++ b) = ordL a b := by
  induction p with
  | nil => rfl
  | cons x p ih => show (if x < x then _ else if x < x then _ else ordL (p ++ a) (p ++ b)) = _; rw [if_neg (by omega), if_neg (by omega)]; exact ih

/-- A key. -/
structure IsKey (l : List Int) : Prop where
  ne : l ≠ []
  le : l.length ≤ 32
  ch : ∀ c ∈ l, 0 ≤ kpl c

theorem kCheck_key (l : List Int) : kCheck l = 0 ↔ IsKey l := by
  unfold kCheck
  by_cases h1 : l = []
  · rw [if_pos h1]; constructor
    · intro h; cases h
    · intro h; exact absurd h1 h.ne
  · rw [if_neg h1]
    by_cases h2 : l.all isK = false
    · rw [if_pos h2]; constructor
      · intro h; cases h
      · intro h
        have : l.all isK = true := by rw [List.all_eq_true]; intro c hc; simp [isK, h.ch c hc]
        rw [this] at h2; cases h2
    · rw [if_neg h2]
      have h3 : l.all isK = true := by simpa using h2
      rw [List.all_eq_true] at h3
      have h4 : ∀ c ∈ l, 0 ≤ kpl c := fun c hc => by have := h3 c hc; simpa [isK] using this
      by_cases h5 : 32 < l.length
      · rw [if_pos h5]; constructor
        · intro h; cases h
        · intro h; have := h.le; omega
      · rw [if_neg h5]; exact ⟨fun _ => ⟨h1, by omega, h4⟩, fun _ => rfl⟩

/-- The order of key characters is that of their places. -/
theorem kpl_lt {x y : Int} (hx : 0 ≤ kpl x) (hy : 0 ≤ kpl y) : x < y ↔ kpl x < kpl y := by
  unfold kpl at *
  (repeat' split at hx) <;> (repeat' split at hy) <;> (repeat' split) <;> omega

theorem kpl_le39 (x : Int) : kpl x ≤ 38 := by unfold kpl; (repeat' split) <;> omega

theorem keyL_next (x : Int) (h0 : 0 ≤ kpl x) (h1 : kpl x < 38) : kpl (keyL.getD (kpl x + 1).toNat 0) = kpl x + 1 := by
  have := kpl_keyL ⟨(kpl x + 1).toNat, by omega⟩
  simp only at this
  rw [this]
  omega

/-- A short key, and the one behind it. -/
theorem next_short (l t : List Int) (ht : ∀ c ∈ t, 0 ≤ kpl c) : ordL l (l ++ [45]) = -1 ∧ (ordL t l ≤ 0 ∨ ordL (l ++ [45]) t ≤ 0) := by
  constructor
  · have := ordL_head l [] [45]
    rw [List.append_nil] at this
    rw [this]; rfl
  · induction l generalizing t with
    | nil =>
      cases t with
      | nil => left; decide
      | cons y t =>
        right
        have hy := ht y (by simp)
        have h45 : ¬ y < 45 := by
          intro h
          unfold kpl at hy
          (repeat' split at hy) <;> omega
        show (if (45 : Int) < y then (-1 : Int) else if y < 45 then 1 else ordL [] t) ≤ 0
        split
        · omega
        · cases t <;> simp [ordL]
    | cons x l ih =>
      cases t with
      | nil => left; simp [ordL]
      | cons y t =>
        show (if y < x then (-1 : Int) else if x < y then 1 else ordL t l) ≤ 0 ∨ (if x < y then (-1 : Int) else if y < x then 1 else ordL (l ++ [45]) t) ≤ 0
        by_cases h1 : y < x
        · left; rw [if_pos h1]; omega
        · by_cases h2 : x < y
          · right; rw [if_pos h2]; omega
          · rw [if_neg h1, if_neg h2, if_neg h2, if_neg h1]
            exact ih t (fun c hc => ht c (by simp [hc]))

/-- Behind i the key has only the greatest character, and the greatest length: nothing with the same head is greater. -/
theorem all_z (z t : List Int) (hz : ∀ c ∈ z, c = 122) (ht : ∀ c ∈ t, 0 ≤ kpl c) (hl : t.length ≤ z.length) : ordL t z ≤ 0 := by
  induction t generalizing z with
  | nil => cases z <;> simp [ordL]
  | cons y t ih =>
    cases z with
    | nil => simp at hl
    | cons c z =>
      have hc := hz c (by simp)
      subst hc
      have hy := ht y (by simp)
      have h122 : ¬ (122 : Int) < y := by
        intro h
        unfold kpl at hy
        (repeat' split at hy) <;> omega
      show (if y < 122 then (-1 : Int) else if (122 : Int) < y then 1 else ordL t z) ≤ 0
      split
      · omega
      · exact ih z (fun q hq => hz q (by simp [hq])) (fun q hq => ht q (by simp [hq])) (by simp at hl; omega)

/-- The step of the greatest length: head p, character x, behind it only the greatest one. -/
theorem next_long (p z t : List Int) (x : Int) (hx0 : 0 ≤ kpl x) (hx1 : kpl x < 38) (hz : ∀ c ∈ z, c = 122) (ht : ∀ c ∈ t, 0 ≤ kpl c) (hl : t.length ≤ p.length + 1 + z.length) :
    ordL (p ++ x :: z) (p ++ [keyL.getD (kpl x + 1).toNat 0]) = -1 ∧ (ordL t (p ++ x :: z) ≤ 0 ∨ ordL (p ++ [keyL.getD (kpl x + 1).toNat 0]) t ≤ 0) := by
  have hn := keyL_next x hx0 hx1
  generalize keyL.getD (kpl x + 1).toNat 0 = y at *
  have hxy : x < y := (kpl_lt hx0 (by omega)).2 (by omega)
  constructor
  · rw [ordL_head]
    show (if x < y then (-1 : Int) else _) = -1
    rw [if_pos hxy]
  · induction p generalizing t with
    | nil =>
      cases t with
      | nil => left; simp [ordL]
      | cons c t =>
        have hc := ht c (by simp)
        show (if c < x then (-1 : Int) else if x < c then 1 else ordL t z) ≤ 0 ∨ (if y < c then (-1 : Int) else if c < y then 1 else ordL [] t) ≤ 0
        by_cases h1 : c < x
        · left; rw [if_pos h1]; omega
        · by_cases h2 : x < c
          · right
            have h3 : ¬ c < y := by
              intro h4
              have a1 := (kpl_lt hx0 hc).1 h2
              have a2 := (kpl_lt hc (by omega : 0 ≤ kpl y)).1 h4
              omega
            split
            · omega
            · cases t <;> simp [ordL]
          · left
            rw [if_neg h1, if_neg h2]
            exact all_z z t hz (fun q hq => ht q (by simp [hq])) (by simp at hl; omega)
    | cons q p ih =>
      cases t with
      | nil => left; simp [ordL]
      | cons c t =>
        show (if c < q then (-1 : Int) else if q < c then 1 else ordL t (p ++ x :: z)) ≤ 0 ∨ (if q < c then (-1 : Int) else if c < q then 1 else ordL (p ++ [y]) t) ≤ 0
        by_cases h1 : c < q
        · left; rw [if_pos h1]; omega
        · by_cases h2 : q < c
          · right; rw [if_pos h2]; omega
          · rw [if_neg h1, if_neg h2, if_neg h2, if_neg h1]
            exact ih t (fun e he => ht e (by simp [he])) (by simp at hl ⊢; omega)
end Go.Proofs.YtogkabdampkbjaaDoor
