/- CRC-32: the numbers of the walks and the numbers of the mathematics. -/
import Derived.Test.YtdjpoffanfgmmaaCrcMath2
import Derived.Laws.BitsLemmas
namespace Go.Proofs.Ytdjpoffanfgmmaa
open Go Go.RowKit

theorem wraps_u32' (n : Int) (h₀ : 0 ≤ n) (h₁ : n < 2 ^ 32) : IntKind.u32.wrap n = n := by
  have e : IntKind.u32.wrap n = n % 4294967296 := by simp [IntKind.wrap, IntKind.bits, IntKind.signed]
  rw [e]; omega

/-- xor of two numbers of 32 bits. -/
theorem xor_u32 (x y : BitVec 32) : bits .xor .u32 (x.toNat : Int) (y.toNat : Int) = ((x ^^^ y).toNat : Int) := by
  show IntKind.u32.wrap ((BitVec.ofInt 32 (x.toNat : Int) ^^^ BitVec.ofInt 32 (y.toNat : Int)).toNat : Int) = _
  rw [BitVec.ofInt_natCast, BitVec.ofInt_natCast, BitVec.ofNat_toNat, BitVec.ofNat_toNat, BitVec.setWidth_eq, BitVec.setWidth_eq]
  exact wraps_u32' _ (by omega) (by have := (x ^^^ y).isLt; omega)

theorem and_u32 (x y : BitVec 32) : bits .and .u32 (x.toNat : Int) (y.toNat : Int) = ((x &&& y).toNat : Int) := by
  show IntKind.u32.wrap ((BitVec.ofInt 32 (x.toNat : Int) &&& BitVec.ofInt 32 (y.toNat : Int)).toNat : Int) = _
  rw [BitVec.ofInt_natCast, BitVec.ofInt_natCast, BitVec.ofNat_toNat, BitVec.ofNat_toNat, BitVec.setWidth_eq, BitVec.setWidth_eq]
  exact wraps_u32' _ (by omega) (by have := (x &&& y).isLt; omega)

theorem and1_u32 (x : BitVec 32) : bits .and .u32 (x.toNat : Int) 1 = if x.getLsbD 0 then 1 else 0 := by
  have h := and_u32 x 1#32
  have e : ((1#32).toNat : Int) = 1 := by decide
  rw [e] at h
  rw [h]
  have e2 : x &&& 1#32 = if x.getLsbD 0 then 1#32 else 0#32 := by
    apply BitVec.eq_of_getLsbD_eq
    intro i hi
    rw [BitVec.getLsbD_and, BitVec.getLsbD_one]
    by_cases h0 : i = 0
    · subst h0; cases x.getLsbD 0 <;> simp
    · cases x.getLsbD 0 <;> simp [h0, BitVec.getLsbD_one]
  rw [e2]
  cases x.getLsbD 0 <;> decide

theorem shr1_u32 (x : BitVec 32) : (x.toNat : Int) / 2 = ((x >>> 1).toNat : Int) := by
  rw [BitVec.toNat_ushiftRight, Nat.shiftRight_eq_div_pow]
  omega

theorem cst_even (x : BitVec 32) (h : x.getLsbD 0 = false) : cst x = x >>> 1 := by
  unfold cst; rw [h]; simp
theorem cst_odd (x : BitVec 32) (h : x.getLsbD 0 = true) : cst x = (x >>> 1) ^^^ crcP := by
  unfold cst; rw [h]; simp

/-- A number of 32 bits that came in. -/
theorem u32_bv {n : Int} (h : (Lit.int .u32 n).wf = true) : ∃ x : BitVec 32, n = (x.toNat : Int) := by
  have hb := bounds_u32 h
  refine ⟨BitVec.ofNat 32 n.toNat, ?_⟩
  rw [BitVec.toNat_ofNat]
  omega

/-- xor with a byte. -/
theorem xor_byte (x : BitVec 32) (b : Int) (h0 : 0 ≤ b) (h1 : b < 256) : bits .xor .u32 (x.toNat : Int) b = ((x ^^^ cbv b).toNat : Int) := by
  obtain ⟨n, rfl⟩ := Int.eq_ofNat_of_zero_le h0
  have e : ((n : Nat) : Int) = ((BitVec.ofNat 32 n).toNat : Int) := by
    rw [BitVec.toNat_ofNat, Nat.mod_eq_of_lt (by omega)]
  rw [cbv_ofNat, ← xor_u32, ← e]

theorem csts_succ (n : Nat) (x : BitVec 32) : csts (n + 1) x = cst (csts n x) := rfl
end Go.Proofs.Ytdjpoffanfgmmaa
