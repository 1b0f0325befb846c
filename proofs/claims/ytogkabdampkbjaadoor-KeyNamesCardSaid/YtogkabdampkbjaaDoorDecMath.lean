/- Plain mathematics: decimal digits and their order. (The same names as in ValRef4 and ValLaw5: not to be imported beside them.) -/
import Derived.Test.YtogkabdampkbjaaDoorKeyMath2
import Derived.Test.YtogkabdampkbjaaDoorMath4
namespace Go.Proofs.YtogkabdampkbjaaDoor
open Go Go.RowKit

/-- Decimal digits. -/
def decS (n : Nat) : ByteArray := ⟨(Lib.decDigits n).toArray⟩

theorem dec_small (d : Nat) (h : d < 10) : Lib.decDigits d = [UInt8.ofNat (48 + d)] := by rw [Lib.decDigits, dif_pos h]

theorem decS_small (d : Nat) (h : d < 10) : decS d = ⟨#[UInt8.ofNat (48 + d)]⟩ := by unfold decS; rw [dec_small d h]

theorem decS_step (n : Nat) (h : 10 ≤ n) : decS (n / 10) ++ decS (n % 10) = decS n := by
  apply ByteArray.ext
  rw [ByteArray.data_append, decS_small (n % 10) (by omega)]
  show (decS (n / 10)).data ++ _ = (Lib.decDigits n).toArray
  rw [Lib.decDigits, dif_neg (by omega)]
  unfold decS
  simp

theorem decS_size (k : Nat) : ∀ n, n < 10 ^ (k + 1) → (decS n).size ≤ k + 1 := by
  induction k with
  | zero => intro n h; rw [decS_small n (by omega)]; exact Nat.le_refl 1
  | succ k ih =>
    intro n h
    by_cases h1 : n < 10
    · rw [decS_small n h1]; exact Nat.le_add_left 1 (k + 1)
    · rw [← decS_step n (by omega), ByteArray.size_append]
      have h2 := ih (n / 10) (by rw [Nat.pow_succ] at h; omega)
      have h3 : (decS (n % 10)).size = 1 := by rw [decS_small _ (by omega)]; rfl
      omega

/-- The digits of a length, as numbers. -/
def decI (n : Nat) : List Int := (Lib.decDigits n).map fun b => (b.toNat : Int)

theorem numS_decS (n : Nat) : numS (decS n) = decI n := rfl

theorem decI_rng (n : Nat) : ∀ y ∈ decI n, 48 ≤ y ∧ y ≤ 57 := by
  intro y hy
  unfold decI at hy
  rw [List.mem_map] at hy
  obtain ⟨b, hb, rfl⟩ := hy
  have h := (dec_facts n).1
  rw [List.all_eq_true] at h
  have := h b hb
  simp [digB] at this
  omega

theorem decI_ne (n : Nat) : 0 < (decI n).length := by
  unfold decI
  rw [List.length_map]
  exact List.length_pos_iff.2 (dec_facts n).2.1

/-- The number that digits say. -/
def decV (acc : Nat) : List Int → Nat
  | [] => acc
  | y :: r => decV (acc * 10 + (y.toNat - 48)) r

theorem decV_append (a b : List Int) : ∀ acc, decV acc (a ++ b) = decV (decV acc a) b := by
  induction a with
  | nil => intro acc; rfl
  | cons y r ih => intro acc; exact ih _

theorem decV_le (l : List Int) : ∀ acc, acc ≤ decV acc l := by
  induction l with
  | nil => intro acc; exact Nat.le_refl _
  | cons y r ih => intro acc; exact Nat.le_trans (by omega) (ih _)

theorem decV_dec (n : Nat) : decV 0 (decI n) = n := by
  have h : ∀ (l : List UInt8) acc, decV acc (l.map fun b => (b.toNat : Int)) = decN acc l := by
    intro l
    induction l with
    | nil => intro acc; rfl
    | cons c r ih => intro acc; exact ih (acc * 10 + (c.toNat - 48))
  unfold decI
  rw [h]
  exact (dec_facts n).2.2.2

theorem decV_ord (a b : List Int) (hl : a.length = b.length) (ha : ∀ y ∈ a, 48 ≤ y ∧ y ≤ 57) (hb : ∀ y ∈ b, 48 ≤ y ∧ y ≤ 57) :
    ∀ p q, (decV p a < decV q b) ↔ (p < q ∨ (p = q ∧ ordL a b < 0)) := by
  induction a generalizing b with
  | nil =>
    intro p q
    cases b with
    | nil =>
      show p < q ↔ (p < q ∨ (p = q ∧ (0 : Int) < 0))
      constructor
      · exact .inl
      · rintro (h | ⟨_, h⟩)
        · exact h
        · omega
    | cons y b => simp at hl
  | cons x a ih =>
    intro p q
    cases b with
    | nil => simp at hl
    | cons y b =>
      have hx := ha x (by simp)
      have hy := hb y (by simp)
      rw [ordL_cons]
      show decV (p * 10 + (x.toNat - 48)) a < decV (q * 10 + (y.toNat - 48)) b ↔ _
      rw [ih b (by simpa using hl) (fun z hz => ha z (by simp [hz])) (fun z hz => hb z (by simp [hz]))]
      by_cases h1 : x < y
      · rw [if_pos h1]
        constructor
        · rintro (h | h)
          · by_cases e : p = q
            · right; exact ⟨e, by decide⟩
            · left; omega
          · right; omega
        · rintro (h | ⟨h, _⟩)
          · left; omega
          · left; omega
      · rw [if_neg h1]
        by_cases h2 : y < x
        · rw [if_pos h2]
          constructor
          · rintro (h | h)
            · left; omega
            · left; omega
          · rintro (h | ⟨_, h⟩)
            · left; omega
            · omega
        · rw [if_neg h2]
          constructor
          · rintro (h | ⟨h, h3⟩)
            · left; omega
            · right; exact ⟨by omega, h3⟩
          · rintro (h | ⟨h, h3⟩)
            · left; omega
            · right; exact ⟨by omega, h3⟩

theorem decI_inj (m n : Nat) (h : decI m = decI n) : m = n := by rw [← decV_dec m, h, decV_dec]

theorem decI_ord (m n : Nat) (h : (decI m).length = (decI n).length) : ordL (decI m) (decI n) < 0 ↔ m < n := by
  have := decV_ord (decI m) (decI n) h (decI_rng m) (decI_rng n) 0 0
  rw [decV_dec, decV_dec] at this
  rw [this]
  simp
end Go.Proofs.YtogkabdampkbjaaDoor
