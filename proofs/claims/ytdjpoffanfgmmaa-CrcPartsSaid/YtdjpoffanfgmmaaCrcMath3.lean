/- Plain mathematics of CRC-32: bit by bit; changes among 32 neighbouring bits. -/
import Derived.Test.YtdjpoffanfgmmaaCrcMath2
namespace Go.Proofs.Ytdjpoffanfgmmaa

/-- A bit as a number. -/
def b1 (t : Bool) : BitVec 32 := if t then 1#32 else 0#32

/-- Bits are fed, the first n of e. -/
def ser (s : BitVec 32) (e : Nat → Bool) : Nat → BitVec 32
  | 0 => s
  | n + 1 => cst (ser s e n ^^^ b1 (e n))

theorem ser_add (s : BitVec 32) (e : Nat → Bool) (m n : Nat) : ser s e (m + n) = ser (ser s e m) (fun j => e (m + j)) n := by
  induction n with
  | zero => rfl
  | succ n ih =>
    have e1 : ser s e (m + (n + 1)) = cst (ser s e (m + n) ^^^ b1 (e (m + n))) := rfl
    rw [e1, ih]
    rfl

theorem ser_congr (s : BitVec 32) (e f : Nat → Bool) (n : Nat) (h : ∀ k, k < n → e k = f k) : ser s e n = ser s f n := by
  induction n with
  | zero => rfl
  | succ n ih => simp only [ser]; rw [ih (fun k hk => h k (by omega)), h n (by omega)]

theorem b1_xor (a b : Bool) : b1 (xor a b) = b1 a ^^^ b1 b := by
  cases a <;> cases b <;> decide

theorem ser_xor (x y : BitVec 32) (e f : Nat → Bool) (n : Nat) : ser (x ^^^ y) (fun k => xor (e k) (f k)) n = ser x e n ^^^ ser y f n := by
  induction n with
  | zero => rfl
  | succ n ih =>
    simp only [ser]
    rw [ih, b1_xor, xor_swap4, cst_xor]

theorem ser_none (e : Nat → Bool) (n : Nat) (h : ∀ k, k < n → e k = false) : ser 0#32 e n = 0#32 := by
  induction n with
  | zero => rfl
  | succ n ih =>
    simp only [ser]
    rw [ih (fun k hk => h k (by omega)), h n (by omega)]
    decide

/-- Bit by bit, or all at once and then the steps. -/
theorem ser_all (s W : BitVec 32) (e : Nat → Bool) (h : ∀ j, e j = W.getLsbD j) (n : Nat) : csts n (s ^^^ W) = (W >>> n) ^^^ ser s e n := by
  induction n with
  | zero => simp [csts, ser, BitVec.xor_comm]
  | succ n ih =>
    simp only [csts, ser]
    rw [ih, cst_xor, cst_xor, h n]
    have h1 : cst (W >>> n) = (W >>> (n + 1)) ^^^ cst (b1 (W.getLsbD n)) := by
      have e1 : cst (W >>> n) = (W >>> n >>> 1) ^^^ (if (W >>> n).getLsbD 0 then crcP else 0#32) := rfl
      rw [e1, ← BitVec.shiftRight_add, BitVec.getLsbD_ushiftRight, Nat.add_zero]
      congr 1
      cases W.getLsbD n <;> decide
    rw [h1, BitVec.xor_assoc]
    congr 1
    rw [BitVec.xor_comm]

/-- The bit k of bytes. -/
def bitAt (l : List Int) (k : Nat) : Bool := (l.getD (k / 8) 0).toNat.testBit (k % 8)

theorem cbv_bit (b : Int) (h0 : 0 ≤ b) (h1 : b < 256) (j : Nat) : (cbv b).getLsbD j = b.toNat.testBit j := by
  obtain ⟨n, rfl⟩ := Int.eq_ofNat_of_zero_le h0
  rw [cbv_ofNat, BitVec.getLsbD_ofNat, Int.toNat_natCast]
  by_cases hj : j < 32
  · simp [hj]
  · have : n.testBit j = false := Nat.testBit_lt_two_pow (Nat.lt_of_lt_of_le (by omega : n < 2 ^ 8) (Nat.pow_le_pow_right (by decide) (by omega)))
    simp [this]

theorem cbv_shr (b : Int) (h0 : 0 ≤ b) (h1 : b < 256) : cbv b >>> 8 = 0#32 := by
  apply BitVec.eq_of_getLsbD_eq
  intro i hi
  rw [BitVec.getLsbD_ushiftRight, cbv_bit b h0 h1, BitVec.getLsbD_zero]
  exact Nat.testBit_lt_two_pow (Nat.lt_of_lt_of_le (by omega : b.toNat < 2 ^ 8) (Nat.pow_le_pow_right (by decide) (by omega)))

theorem feeds_ser (x : BitVec 32) (l : List Int) (h : ∀ y ∈ l, 0 ≤ y ∧ y < 256) : feeds x l = ser x (bitAt l) (8 * l.length) := by
  induction l generalizing x with
  | nil => rfl
  | cons b r ih =>
    have hb := h b (by simp)
    have e : feeds x (b :: r) = feeds (feed x b) r := rfl
    rw [e, ih _ (fun y hy => h y (by simp [hy])), List.length_cons, show 8 * (r.length + 1) = 8 + 8 * r.length by omega, ser_add]
    have h8 : ser x (bitAt (b :: r)) 8 = feed x b := by
      have h1 := ser_all x (cbv b) (fun j => (cbv b).getLsbD j) (fun _ => rfl) 8
      rw [cbv_shr b hb.1 hb.2, BitVec.zero_xor] at h1
      unfold feed
      rw [h1]
      refine ser_congr _ _ _ _ (fun k hk => ?_)
      rw [cbv_bit b hb.1 hb.2]
      unfold bitAt
      rw [show k / 8 = 0 by omega, show k % 8 = k by omega]
      rfl
    rw [h8]
    refine ser_congr _ _ _ _ (fun k hk => ?_)
    unfold bitAt
    rw [show (8 + k) / 8 = k / 8 + 1 by omega, show (8 + k) % 8 = k % 8 by omega]
    rfl

/-- Changes within a window of 32 bits. -/
theorem ser_window (at_ N : Nat) (W : BitVec 32) (hN : at_ ≤ N) (hW : ∀ i, N ≤ at_ + i → W.getLsbD i = false) :
    ser 0#32 (fun k => decide (at_ ≤ k) && W.getLsbD (k - at_)) N = csts (N - at_) W := by
  have e : N = at_ + (N - at_) := by omega
  have h0 : ser 0#32 (fun k => decide (at_ ≤ k) && W.getLsbD (k - at_)) at_ = 0#32 := ser_none _ _ (fun k hk => by simp; omega)
  have h1 : ser 0#32 (fun k => decide (at_ ≤ k) && W.getLsbD (k - at_)) N = ser 0#32 (fun j => W.getLsbD j) (N - at_) := by
    rw [e, ser_add, h0, ← e]
    refine ser_congr _ _ _ _ (fun k hk => ?_)
    simp [Nat.add_sub_cancel_left]
  rw [h1]
  have h2 := ser_all 0#32 W (fun j => W.getLsbD j) (fun _ => rfl) (N - at_)
  rw [BitVec.zero_xor] at h2
  rw [h2]
  have h3 : W >>> (N - at_) = 0#32 := by
    apply BitVec.eq_of_getLsbD_eq
    intro i hi
    rw [BitVec.getLsbD_ushiftRight, BitVec.getLsbD_zero]
    exact hW _ (by omega)
  rw [h3, BitVec.zero_xor]

/-- The checksum tells two strings apart that differ among 32 neighbouring bits. -/
theorem crcU_window (B C : List Int) (hB : ∀ y ∈ B, 0 ≤ y ∧ y < 256) (hC : ∀ y ∈ C, 0 ≤ y ∧ y < 256) (hl : C.length = B.length) (at_ : Nat) (W : BitVec 32) (hat : at_ ≤ 8 * B.length) (hW : ∀ i, 8 * B.length ≤ at_ + i → W.getLsbD i = false)
    (h : ∀ k, k < 8 * B.length → bitAt C k = xor (bitAt B k) (decide (at_ ≤ k) && W.getLsbD (k - at_))) :
    crcU 0#32 B = crcU 0#32 C ↔ W = 0#32 := by
  have e1 : crcU 0#32 B = crcU 0#32 C ↔ feeds crcF B ^^^ feeds crcF C = 0#32 := by
    unfold crcU
    rw [BitVec.zero_xor, xor_eq_zero]
    constructor
    · intro h
      have h2 := congrArg (fun v => v ^^^ crcF) h
      simpa [BitVec.xor_assoc] using h2
    · intro h; rw [h]
  rw [e1, feeds_ser _ _ hB, feeds_ser _ _ hC, hl, ← ser_xor, BitVec.xor_self]
  have e2 : ser 0#32 (fun k => xor (bitAt B k) (bitAt C k)) (8 * B.length) = csts (8 * B.length - at_) W := by
    rw [← ser_window at_ (8 * B.length) W hat hW]
    refine ser_congr _ _ _ _ (fun k hk => ?_)
    rw [h k hk]
    cases bitAt B k <;> simp
  rw [e2]
  constructor
  · intro h; exact csts_inj (8 * B.length - at_) (by rw [h, csts_zero])
  · rintro rfl; exact csts_zero _
end Go.Proofs.Ytdjpoffanfgmmaa
