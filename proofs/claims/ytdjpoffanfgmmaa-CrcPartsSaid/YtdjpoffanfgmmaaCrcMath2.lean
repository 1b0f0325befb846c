/- Plain mathematics of CRC-32: three strings, the table, matrices. -/
import Derived.Test.YtdjpoffanfgmmaaCrcMath
namespace Go.Proofs.Ytdjpoffanfgmmaa

/-- Three strings of one length at once. -/
theorem feeds_xor3 (p q r : BitVec 32) (A B C X : List Int) (hB : B.length = A.length) (hC : C.length = A.length) (hX : X.length = A.length)
    (h : ∀ i, i < A.length → cbv (X.getD i 0) = cbv (A.getD i 0) ^^^ cbv (B.getD i 0) ^^^ cbv (C.getD i 0)) :
    feeds (p ^^^ q ^^^ r) X = feeds p A ^^^ feeds q B ^^^ feeds r C := by
  induction A generalizing p q r B C X with
  | nil =>
    rw [List.eq_nil_of_length_eq_zero hB, List.eq_nil_of_length_eq_zero hC, List.eq_nil_of_length_eq_zero hX]
    rfl
  | cons a A ih =>
    match B, C, X, hB, hC, hX with
    | b :: B, c :: C, x :: X, hB, hC, hX =>
      have h0 : cbv x = cbv a ^^^ cbv b ^^^ cbv c := h 0 (by simp)
      have e : feeds (p ^^^ q ^^^ r) (x :: X) = feeds (feed (p ^^^ q ^^^ r) x) X := rfl
      have ea : feeds p (a :: A) = feeds (feed p a) A := rfl
      have eb : feeds q (b :: B) = feeds (feed q b) B := rfl
      have ec : feeds r (c :: C) = feeds (feed r c) C := rfl
      have ef : feed (p ^^^ q ^^^ r) x = feed p a ^^^ feed q b ^^^ feed r c := by
        unfold feed
        rw [h0, ← csts_xor, ← csts_xor]
        congr 1
        ext i hi
        simp only [BitVec.getElem_xor]
        cases p[i] <;> cases q[i] <;> cases r[i] <;> cases (cbv a)[i] <;> cases (cbv b)[i] <;> cases (cbv c)[i] <;> rfl
      rw [e, ea, eb, ec, ef]
      refine ih _ _ _ B C X (by simpa using hB) (by simpa using hC) (by simpa using hX) (fun i hi => ?_)
      exact h (i + 1) (by simp only [List.length_cons]; omega)

theorem crcU_xor3 (A B C X : List Int) (hB : B.length = A.length) (hC : C.length = A.length) (hX : X.length = A.length)
    (h : ∀ i, i < A.length → cbv (X.getD i 0) = cbv (A.getD i 0) ^^^ cbv (B.getD i 0) ^^^ cbv (C.getD i 0)) :
    crcU 0#32 A ^^^ crcU 0#32 B ^^^ crcU 0#32 C = crcU 0#32 X := by
  have h3 := feeds_xor3 crcF crcF crcF A B C X hB hC hX h
  have e : crcF ^^^ crcF ^^^ crcF = crcF := by decide
  rw [e] at h3
  unfold crcU
  rw [BitVec.zero_xor, h3]
  generalize feeds crcF A = u
  generalize feeds crcF B = v
  generalize feeds crcF C = z
  ext i hi
  simp only [BitVec.getElem_xor]
  cases u[i] <;> cases v[i] <;> cases z[i] <;> cases crcF[i] <;> rfl

/-- Steps of a number whose lowest bits are 0 only shift it. -/
theorem csts_low (k : Nat) (y : BitVec 32) (h : ∀ i, i < k → y.getLsbD i = false) : csts k y = y >>> k := by
  induction k with
  | zero => simp [csts]
  | succ k ih =>
    have e := ih (fun i hi => h i (by omega))
    simp only [csts, e]
    unfold cst
    rw [BitVec.getLsbD_ushiftRight, Nat.add_zero, h k (by omega)]
    simp [← BitVec.shiftRight_add]

theorem cbv_ofNat (n : Nat) : cbv (n : Int) = BitVec.ofNat 32 n := by
  unfold cbv; exact BitVec.ofInt_natCast 32 n

theorem low24 : ∀ i : Fin 32, ((~~~(255#32)) >>> 8).getLsbD i.val = decide (i.val < 24) := by decide

/-- A byte is fed with the table. -/
theorem feed_tab (x : BitVec 32) (b : Nat) (hb : b < 256) : feed x (b : Int) = feed 0#32 ((x.toNat % 256 ^^^ b : Nat) : Int) ^^^ (x >>> 8) := by
  have hx : x = (x &&& 255#32) ^^^ (x &&& ~~~(255#32)) := by
    ext i hi
    simp only [BitVec.getElem_xor, BitVec.getElem_and, BitVec.getElem_not]
    cases x[i] <;> cases (255#32)[i] <;> rfl
  have hlow : ∀ i, i < 8 → (x &&& ~~~(255#32)).getLsbD i = false := by
    intro i hi
    rw [BitVec.getLsbD_and]
    have : (~~~(255#32)).getLsbD i = false := by
      have : i = 0 ∨ i = 1 ∨ i = 2 ∨ i = 3 ∨ i = 4 ∨ i = 5 ∨ i = 6 ∨ i = 7 := by omega
      rcases this with rfl | rfl | rfl | rfl | rfl | rfl | rfl | rfl <;> decide
    rw [this, Bool.and_false]
  have hsh : (x &&& ~~~(255#32)) >>> 8 = x >>> 8 := by
    rw [BitVec.ushiftRight_and_distrib]
    ext i hi
    rw [BitVec.getElem_and]
    have h1 : ((~~~(255#32)) >>> 8)[i] = decide (i < 24) := by
      rw [← BitVec.getLsbD_eq_getElem]
      exact low24 ⟨i, hi⟩
    rw [h1]
    by_cases h24 : i < 24
    · simp [h24]
    · have : (x >>> 8)[i] = false := by
        rw [← BitVec.getLsbD_eq_getElem, BitVec.getLsbD_ushiftRight]
        exact BitVec.getLsbD_of_ge _ _ (by omega)
      rw [this]; rfl
  have hbyte : BitVec.ofNat 32 (x.toNat % 256 ^^^ b) = (x &&& 255#32) ^^^ BitVec.ofNat 32 b := by
    apply BitVec.eq_of_toNat_eq
    have hlt : x.toNat % 256 ^^^ b < 2 ^ 8 := Nat.xor_lt_two_pow (Nat.mod_lt _ (by decide)) hb
    rw [BitVec.toNat_ofNat, BitVec.toNat_xor, BitVec.toNat_and, BitVec.toNat_ofNat, BitVec.toNat_ofNat, Nat.mod_eq_of_lt (by omega : x.toNat % 256 ^^^ b < 2 ^ 32), Nat.mod_eq_of_lt (by omega : b < 2 ^ 32)]
    congr 1
    exact (Nat.and_two_pow_sub_one_eq_mod x.toNat 8).symm
  unfold feed
  rw [cbv_ofNat, cbv_ofNat, hbyte, BitVec.zero_xor]
  have e : x ^^^ BitVec.ofNat 32 b = ((x &&& 255#32) ^^^ BitVec.ofNat 32 b) ^^^ (x &&& ~~~(255#32)) := by
    rw [BitVec.xor_assoc, BitVec.xor_comm (BitVec.ofNat 32 b), ← BitVec.xor_assoc, ← hx]
  rw [e, csts_xor, csts_low 8 _ hlow, hsh]

/-- A matrix applied: the columns of the bits below k that are set. -/
def app (m : Nat → BitVec 32) (x : BitVec 32) : Nat → BitVec 32
  | 0 => 0#32
  | k + 1 => app m x k ^^^ (if x.getLsbD k then m k else 0#32)

/-- The bits below k. -/
def lowk (x : BitVec 32) (k : Nat) : BitVec 32 := BitVec.ofNat 32 (x.toNat % 2 ^ k)

theorem lowk_zero (x : BitVec 32) : lowk x 0 = 0#32 := by simp [lowk, Nat.mod_one]
theorem lowk_all (x : BitVec 32) : lowk x 32 = x := by
  unfold lowk; rw [Nat.mod_eq_of_lt x.isLt, BitVec.ofNat_toNat, BitVec.setWidth_eq]

theorem lowk_bit (x : BitVec 32) (k i : Nat) : (lowk x k).getLsbD i = (decide (i < k) && x.getLsbD i) := by
  unfold lowk
  rw [BitVec.getLsbD_ofNat, Nat.testBit_mod_two_pow]
  by_cases h : i < 32
  · simp [h, BitVec.getLsbD]
  · rw [BitVec.getLsbD_of_ge x i (by omega)]; simp [h]

theorem lowk_succ (x : BitVec 32) (k : Nat) (hk : k < 32) : lowk x (k + 1) = lowk x k ^^^ (if x.getLsbD k then 1#32 <<< k else 0#32) := by
  apply BitVec.eq_of_getLsbD_eq
  intro i hi
  rw [BitVec.getLsbD_xor, lowk_bit, lowk_bit]
  by_cases hik : i = k
  · subst hik
    cases hx : x.getLsbD i with
    | true => simp [hi]
    | false => simp
  · have h1 : (if x.getLsbD k then 1#32 <<< k else 0#32).getLsbD i = false := by
      cases x.getLsbD k with
      | false => simp
      | true =>
        simp only [if_true, BitVec.getLsbD_shiftLeft]
        by_cases hlt : i < k
        · simp [hlt]
        · have : (1#32).getLsbD (i - k) = false := by
            simp only [BitVec.getLsbD_one]
            simp; omega
          rw [this]; simp
    rw [h1, Bool.xor_false]
    congr 1
    rw [decide_eq_decide]
    omega

/-- A linear function is its matrix. -/
theorem app_lin (f : BitVec 32 → BitVec 32) (h0 : f 0#32 = 0#32) (hx : ∀ a b, f (a ^^^ b) = f a ^^^ f b) (m : Nat → BitVec 32) (hm : ∀ i, i < 32 → m i = f (1#32 <<< i)) (x : BitVec 32) (k : Nat) (hk : k ≤ 32) :
    app m x k = f (lowk x k) := by
  induction k with
  | zero => rw [lowk_zero, h0]; rfl
  | succ k ih =>
    simp only [app]
    rw [ih (by omega), lowk_succ x k (by omega), hx, hm k (by omega)]
    congr 1
    cases x.getLsbD k
    · simp [h0]
    · simp

theorem app_shf (n : Nat) (m : Nat → BitVec 32) (hm : ∀ i, i < 32 → m i = shf (1#32 <<< i) n) (x : BitVec 32) : app m x 32 = shf x n := by
  rw [app_lin (fun x => shf x n) (shf_zero n) (fun a b => shf_xor a b n) m hm x 32 (Nat.le_refl _), lowk_all]
end Go.Proofs.Ytdjpoffanfgmmaa
