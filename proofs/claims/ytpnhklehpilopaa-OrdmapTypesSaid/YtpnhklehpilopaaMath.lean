/- Plain mathematics: numbers and their bytes. -/
import Derived.WalkKit
import Derived.Lib.Bytes
namespace Go.Proofs.Ytpnhklehpilopaa
open Go Go.RowKit

/-- The bytes of n in m bytes, the least significant one first. -/
def le (n : Int) (m : Nat) : List Int := (List.range m).map fun k => n / 2 ^ (8 * k) % 256

theorem le_length (n : Int) (m : Nat) : (le n m).length = m := by simp [le]
theorem le_succ (n : Int) (m : Nat) : le n (m + 1) = le n m ++ [n / 2 ^ (8 * m) % 256] := by simp [le, List.range_succ]
theorem le_rng (n : Int) (m : Nat) : ∀ x ∈ le n m, 0 ≤ x ∧ x < 256 := by
  intro x hx
  simp only [le, List.mem_map] at hx
  obtain ⟨k, _, rfl⟩ := hx
  exact ⟨Int.emod_nonneg _ (by decide), Int.emod_lt_of_pos _ (by decide)⟩

/-- The number whose bytes these are, the least significant one first. -/
def val : List Int → Int
  | [] => 0
  | b :: r => b + 256 * val r

theorem val_append (a b : List Int) : val (a ++ b) = val a + 256 ^ a.length * val b := by
  induction a with
  | nil => simp [val]
  | cons x r ih => simp only [List.cons_append, val, ih, List.length_cons, Int.pow_succ]; rw [Int.mul_add, ← Int.mul_assoc, Int.mul_comm 256 (256 ^ r.length)]; omega

theorem val_bounds (l : List Int) (h : ∀ x ∈ l, 0 ≤ x ∧ x < 256) : 0 ≤ val l ∧ val l < 256 ^ l.length := by
  induction l with
  | nil => simp [val]
  | cons x r ih =>
    have h1 := h x (by simp)
    have h2 := ih (fun y hy => h y (by simp [hy]))
    simp only [val, List.length_cons, Int.pow_succ]
    omega

theorem pow256 (k : Nat) : (256 : Int) ^ k = 2 ^ (8 * k) := by
  rw [Int.pow_mul]; rfl

/-- One more byte above a number that fits below it. -/
theorem or_byte (a y : Int) (k : Nat) (ha : 0 ≤ a) (ha' : a < 2 ^ (8 * k)) (hy : 0 ≤ y) (hy' : y < 256) (hk : k < 8) :
    bits .or .u64 a (IntKind.u64.wrap (y * 2 ^ (8 * k))) = a + 2 ^ (8 * k) * y := by
  obtain ⟨a, rfl⟩ := Int.eq_ofNat_of_zero_le ha
  obtain ⟨y, rfl⟩ := Int.eq_ofNat_of_zero_le hy
  have e : ((y : Int) * 2 ^ (8 * k)) = ((y * 2 ^ (8 * k) : Nat) : Int) := by simp
  have ha2 : a < 2 ^ (8 * k) := by
    have : ((2 : Int) ^ (8 * k)) = ((2 ^ (8 * k) : Nat) : Int) := by simp
    rw [this] at ha'; exact_mod_cast ha'
  have hlt : y * 2 ^ (8 * k) < 18446744073709551616 := by
    have h1 : (2 : Nat) ^ (8 * k) ≤ 2 ^ 56 := Nat.pow_le_pow_right (by decide) (by omega)
    have h2 : y * 2 ^ (8 * k) ≤ 255 * 2 ^ 56 := Nat.mul_le_mul (by omega) h1
    omega
  have hw : IntKind.u64.wrap ((y * 2 ^ (8 * k) : Nat) : Int) = ((y * 2 ^ (8 * k) : Nat) : Int) := by
    rw [IntKind.wrap_u64]; omega
  have hpow : (2 : Nat) ^ (8 * k) ≤ 2 ^ 56 := Nat.pow_le_pow_right (by decide) (by omega)
  rw [e, hw, u64_or_nat _ _ (by omega) hlt, Nat.or_comm, nat_join (8 * k) (y * 2 ^ (8 * k)) a (Nat.mul_mod_left _ _) ha2]
  simp only [Int.natCast_add, Int.natCast_mul, Int.natCast_pow]
  rw [Int.mul_comm]
  exact Int.add_comm _ _

theorem val_step (xs : List Int) (at_ k : Nat) (hlt : at_ + k < xs.length) (hk : k < 8) (h : ∀ x ∈ xs, 0 ≤ x ∧ x < 256) :
    bits .or .u64 (val ((xs.drop at_).take k)) (IntKind.u64.wrap (xs.getD (at_ + k) 0 * 2 ^ (8 * k))) = val ((xs.drop at_).take (k + 1)) := by
  have hlen : ((xs.drop at_).take k).length = k := by simp; omega
  have hb := val_bounds ((xs.drop at_).take k) (fun x hx => h x (List.mem_of_mem_drop (List.mem_of_mem_take hx)))
  rw [hlen, pow256] at hb
  have hx : xs.getD (at_ + k) 0 = xs[at_ + k] := by simp [List.getD, hlt]
  have hy := h xs[at_ + k] (List.getElem_mem _)
  rw [hx, or_byte _ _ k hb.1 hb.2 hy.1 hy.2 hk]
  have e : (xs.drop at_).take (k + 1) = (xs.drop at_).take k ++ [xs[at_ + k]] := by
    rw [List.take_succ_eq_append_getElem (by simp; omega)]; simp
  rw [e, val_append, hlen, pow256]
  simp [val]

/-- The bytes of a number that fits give it back. -/
theorem val_le (n : Int) (m : Nat) (h0 : 0 ≤ n) : val (le n m) = n % 2 ^ (8 * m) := by
  induction m with
  | zero => simp [le, val, Int.emod_one]
  | succ m ih =>
    rw [le_succ, val_append, ih, le_length, pow256]
    simp only [val]
    have e : (2 : Int) ^ (8 * (m + 1)) = 2 ^ (8 * m) * 256 := by rw [Nat.mul_add, Int.pow_add]; rfl
    rw [e]
    obtain ⟨n, rfl⟩ := Int.eq_ofNat_of_zero_le h0
    have h := @Nat.mod_mul (2 ^ (8 * m)) 256 n
    have e2 : ((2 : Int) ^ (8 * m)) = ((2 ^ (8 * m) : Nat) : Int) := by simp
    rw [e2]
    generalize 2 ^ (8 * m) = q at *
    have h2 := congrArg (fun x : Nat => (x : Int)) h
    simp only [Int.natCast_add, Int.natCast_mul, Int.natCast_emod, Int.natCast_ediv] at h2
    simp only [Int.mul_zero, Int.add_zero]
    exact h2.symm

/-- The hexadecimal digit of a number below 16, as a byte's number. -/
def dgI (d : Int) : Int := if d < 10 then 48 + d else 87 + d
/-- The digits of bytes, the more significant one first, as numbers. -/
def hexI (l : List Int) : List Int := l.flatMap fun x => [dgI (x / 16), dgI (x % 16)]

theorem hexI_length (l : List Int) : (hexI l).length = 2 * l.length := by
  induction l with
  | nil => rfl
  | cons x r ih => simp only [hexI, List.flatMap_cons, List.length_append, List.length_cons, List.length_nil] at *; omega
theorem hexI_snoc (l : List Int) (x : Int) : hexI (l ++ [x]) = hexI l ++ [dgI (x / 16), dgI (x % 16)] := by simp [hexI]
theorem dgI_rng {d : Int} (h0 : 0 ≤ d) (h1 : d < 16) : 0 ≤ dgI d ∧ dgI d < 256 := by unfold dgI; split <;> omega
theorem hexI_rng (l : List Int) (h : ∀ x ∈ l, 0 ≤ x ∧ x < 256) : ∀ y ∈ hexI l, 0 ≤ y ∧ y < 256 := by
  intro y hy
  simp only [hexI, List.mem_flatMap] at hy
  obtain ⟨x, hx, hy⟩ := hy
  have hb := h x hx
  simp only [List.mem_cons, List.not_mem_nil, or_false] at hy
  rcases hy with rfl | rfl
  · exact dgI_rng (by omega) (by omega)
  · exact dgI_rng (by omega) (by omega)

/-- The string of bytes given as numbers. -/
def strI (l : List Int) : ByteArray := ⟨(Lib.bytesOf l).toArray⟩

theorem hexI_step (xs : List Int) (k : Nat) (h : k < xs.length) : (hexI (xs.take (k + 1))).map (Value.int .u8) = (hexI (xs.take k)).map (Value.int .u8) ++ [Value.int .u8 (dgI (xs.getD k 0 / 16)), Value.int .u8 (dgI (xs.getD k 0 % 16))] := by
  have e : xs.take (k + 1) = xs.take k ++ [xs.getD k 0] := by
    rw [List.take_succ_eq_append_getElem h]; simp [List.getD, h]
  rw [e, hexI_snoc]; simp

/-- What a byte is as a hexadecimal digit. -/
def hvOk (c : Int) : Bool := (decide (48 ≤ c) && decide (c ≤ 57)) || (decide (97 ≤ c) && decide (c ≤ 102))
def hv (c : Int) : Int := if 48 ≤ c ∧ c ≤ 57 then c - 48 else if 97 ≤ c ∧ c ≤ 102 then c - 87 else 0
theorem hv_rng (c : Int) : 0 ≤ hv c ∧ hv c < 16 := by unfold hv; (repeat' split) <;> omega

/-- The bytes of a string, as numbers. -/
def numS (s : ByteArray) : List Int := s.data.toList.map fun b => (b.toNat : Int)
theorem numS_length (s : ByteArray) : (numS s).length = s.size := by simp [numS]
theorem numS_rng (s : ByteArray) : ∀ x ∈ numS s, 0 ≤ x ∧ x < 256 := by
  intro x hx
  simp only [numS, List.mem_map] at hx
  obtain ⟨b, _, rfl⟩ := hx
  have := b.toNat_lt
  omega

/-- Whether numbers are those of a hexadecimal string, and its bytes. -/
def phOk : List Int → Bool
  | [] => true
  | [_] => false
  | a :: b :: r => hvOk a && hvOk b && phOk r
def phV : List Int → List Int
  | a :: b :: r => (hv a * 16 + hv b) :: phV r
  | _ => []

theorem phOk_append (x y : List Int) (h : phOk x = true) : phOk (x ++ y) = phOk y := by
  match x, h with
  | [], _ => rfl
  | [_], h => simp [phOk] at h
  | a :: b :: r, h =>
    simp only [phOk, Bool.and_eq_true] at h
    simp only [List.cons_append, phOk, h.1.1, h.1.2, Bool.and_self, Bool.true_and]
    exact phOk_append r y h.2
theorem phV_append (x y : List Int) (h : phOk x = true) : phV (x ++ y) = phV x ++ phV y := by
  match x, h with
  | [], _ => rfl
  | [_], h => simp [phOk] at h
  | a :: b :: r, h =>
    simp only [phOk, Bool.and_eq_true] at h
    simp only [List.cons_append, phV]
    rw [phV_append r y h.2]
theorem phOk_even (x : List Int) (h : phOk x = true) : x.length % 2 = 0 := by
  match x, h with
  | [], _ => rfl
  | [_], h => simp [phOk] at h
  | a :: b :: r, h =>
    simp only [phOk, Bool.and_eq_true] at h
    have := phOk_even r h.2
    simp only [List.length_cons]; omega
theorem phV_length (x : List Int) : (phV x).length = x.length / 2 := by
  match x with
  | [] => rfl
  | [_] => simp [phV]
  | a :: b :: r => simp only [phV, List.length_cons, phV_length r]; omega
theorem phV_rng (x : List Int) : ∀ y ∈ phV x, 0 ≤ y ∧ y < 256 := by
  match x with
  | [] => intro y hy; cases hy
  | [_] => intro y hy; cases hy
  | a :: b :: r =>
    intro y hy
    simp only [phV, List.mem_cons] at hy
    rcases hy with rfl | hy
    · have := hv_rng a; have := hv_rng b; omega
    · exact phV_rng r y hy

theorem take_two (l : List Int) (k : Nat) (h : 2 * k + 1 < l.length) : l.take (2 * (k + 1)) = l.take (2 * k) ++ [l.getD (2 * k) 0, l.getD (2 * k + 1) 0] := by
  rw [show 2 * (k + 1) = 2 * k + 1 + 1 from by omega, List.take_succ_eq_append_getElem h, List.take_succ_eq_append_getElem (by omega), List.append_assoc]
  have e1 : l.getD (2 * k) 0 = l[2 * k] := by simp [List.getD, show 2 * k < l.length from by omega]
  have e2 : l.getD (2 * k + 1) 0 = l[2 * k + 1] := by simp [List.getD, h]
  rw [e1, e2]
  rfl
theorem drop_two (l : List Int) (k : Nat) (h : 2 * k + 1 < l.length) : l = l.take (2 * k) ++ (l.getD (2 * k) 0 :: l.getD (2 * k + 1) 0 :: l.drop (2 * (k + 1))) := by
  have h1 := List.take_append_drop (2 * (k + 1)) l
  rw [take_two l k h, List.append_assoc] at h1
  exact h1.symm

/-- One pair of digits more. -/
theorem ph_step (l : List Int) (k : Nat) (h : 2 * k + 1 < l.length) (hk : phOk (l.take (2 * k)) = true) (ha : hvOk (l.getD (2 * k) 0) = true) (hb : hvOk (l.getD (2 * k + 1) 0) = true) :
    phOk (l.take (2 * (k + 1))) = true ∧ phV (l.take (2 * (k + 1))) = phV (l.take (2 * k)) ++ [hv (l.getD (2 * k) 0) * 16 + hv (l.getD (2 * k + 1) 0)] := by
  rw [take_two l k h]
  generalize l.getD (2 * k) 0 = a at *
  generalize l.getD (2 * k + 1) 0 = b at *
  refine ⟨?_, ?_⟩
  · rw [phOk_append _ _ hk]; simp [phOk, ha, hb]
  · rw [phV_append _ _ hk]; simp [phV]
theorem ph_bad (l : List Int) (k : Nat) (h : 2 * k + 1 < l.length) (hk : phOk (l.take (2 * k)) = true) (hbad : (hvOk (l.getD (2 * k) 0) && hvOk (l.getD (2 * k + 1) 0)) = false) : phOk l = false := by
  rw [drop_two l k h, phOk_append _ _ hk, phOk, hbad, Bool.false_and]

theorem shl4_or (a b : Int) (ha : 0 ≤ a ∧ a < 16) (hb : 0 ≤ b ∧ b < 16) : bits .or .u8 (a * 16) b = a * 16 + b := by
  obtain ⟨a, rfl⟩ := Int.eq_ofNat_of_zero_le ha.1
  obtain ⟨b, rfl⟩ := Int.eq_ofNat_of_zero_le hb.1
  have h := u8_or_nat (a * 16) b (by omega) (by omega)
  rw [nat_join4 _ _ (by omega) (by omega)] at h
  exact_mod_cast h

theorem numS_at (s : ByteArray) (i : Nat) (h : i < s.size) : (numS s).getD i 0 = (s[i].toNat : Int) := by
  have h2 : i < s.data.toList.length := by simpa using h
  simp only [numS, List.getD_eq_getElem?_getD, List.getElem?_map, List.getElem?_eq_getElem h2, Option.map_some, Option.getD_some]
  rfl

/-- Whether a number is a width. -/
def isW (n : Int) : Bool := n == 1 || n == 2 || n == 4 || n == 8

/-- Whether n (not negative) fits in m bytes: m is a width, and nothing is left beyond it. -/
def fitsI (n m : Int) : Bool := isW m && (n / 256 ^ m.toNat == 0)

theorem isW_cases {n : Int} (h : isW n = true) : n = 1 ∨ n = 2 ∨ n = 4 ∨ n = 8 := by
  simpa [isW, or_assoc] using h

theorem fits_pow {n : Int} {m : Nat} (hw : isW m = true) : fitsI n m = (n / 2 ^ (8 * m) == 0) := by
  unfold fitsI
  rw [hw, Bool.true_and, Int.toNat_natCast, pow256]

theorem fits_eight {n : Int} (h0 : 0 ≤ n) (h1 : n ≤ 18446744073709551615) : fitsI n 8 = true := by
  have e : n / 256 ^ (8 : Int).toNat = 0 := Int.ediv_eq_zero_of_lt h0 (by show n < 256 ^ 8; omega)
  unfold fitsI
  rw [e]; decide

end Go.Proofs.Ytpnhklehpilopaa
