/- bits.OnesCount64. -/
import Derived.Test.YtejkbanecbjdoaaProg
import Derived.Test.YtejkbanecbjdoaaSsMath
import Derived.WalkKit
import Derived.Outline
import Derived.Lib.Hide
namespace Go.Proofs.Ytejkbanecbjdoaa
open Go Go.RowKit

theorem and_u64n (a b : Nat) (ha : a < 18446744073709551616) (hb : b < 18446744073709551616) : bits .and .u64 (a : Int) (b : Int) = ((a &&& b : Nat) : Int) := u64_and_nat a b ha hb

theorem wrap_u64n {a : Nat} (h : a < 18446744073709551616) : IntKind.u64.wrap (a : Int) = (a : Int) := by
  have e : IntKind.u64.wrap (a : Int) = (a : Int) % 18446744073709551616 := by simp [IntKind.wrap, IntKind.bits, IntKind.signed]
  rw [e]; omega

theorem and127 (a : Nat) (h : a < 9223372036854775808) : bits .and .i64 (a : Int) 127 = ((a &&& 127 : Nat) : Int) := by
  show IntKind.i64.wrap ((BitVec.ofInt 64 (a : Int) &&& BitVec.ofInt 64 ((127 : Nat) : Int)).toNat : Int) = _
  rw [BitVec.ofInt_natCast, BitVec.ofInt_natCast, BitVec.toNat_and, BitVec.toNat_ofNat, BitVec.toNat_ofNat, Nat.mod_eq_of_lt (by omega), Nat.mod_eq_of_lt (by decide)]
  have : a &&& 127 ≤ 127 := Nat.and_le_right
  generalize a &&& 127 = y at *
  simp [IntKind.wrap, IntKind.bits, IntKind.signed]
  omega

set_option maxHeartbeats 800000 in
set_option maxRecDepth 100000 in
theorem ones_any (v : Nat) (hv : v < 18446744073709551616) (W : World) :
    Calls Try.prog 48 #[.int .u64 (v : Nat)] W fun e w' => e = .returned (.int .i64 (pcB 8 v : Nat)) ∧ w' = W := by
  obtain ⟨y1, y2, y3, y4, y5, y6, ⟨a1, b1⟩, ⟨a2, b2⟩, ⟨a3, b3⟩, ⟨a4, b4⟩, ⟨a5, b5⟩, ⟨a6, b6⟩, a7⟩ := ones_steps hv
  have y3b : y3 < 18446744073709551616 := by have : y3 ≤ y4 := by omega
                                             omega
  have h1 : IntKind.u64.wrap (bits .and .u64 ((v : Int) / 2) 6148914691236517205 + bits .and .u64 (v : Int) 6148914691236517205) = (y1 : Int) := by
    have e1 := and_u64n (v / 2) 6148914691236517205 (by omega) (by decide)
    have e2 := and_u64n v 6148914691236517205 hv (by decide)
    rw [Int.natCast_ediv] at e1
    rw [show ((v : Int) / 2) = ((v : Int) / ((2 : Nat) : Int)) from rfl, show (6148914691236517205 : Int) = ((6148914691236517205 : Nat) : Int) from rfl, e1, e2, ← Int.natCast_add, a1]
    exact wrap_u64n b1
  have h2 : IntKind.u64.wrap (bits .and .u64 ((y1 : Int) / 4) 3689348814741910323 + bits .and .u64 (y1 : Int) 3689348814741910323) = (y2 : Int) := by
    have e1 := and_u64n (y1 / 4) 3689348814741910323 (by omega) (by decide)
    have e2 := and_u64n y1 3689348814741910323 b1 (by decide)
    rw [Int.natCast_ediv] at e1
    rw [show ((y1 : Int) / 4) = ((y1 : Int) / ((4 : Nat) : Int)) from rfl, show (3689348814741910323 : Int) = ((3689348814741910323 : Nat) : Int) from rfl, e1, e2, ← Int.natCast_add, a2]
    exact wrap_u64n b2
  have h3 : bits .and .u64 (IntKind.u64.wrap ((y2 : Int) / 16 + (y2 : Int))) 1085102592571150095 = (y3 : Int) := by
    have e1 := and_u64n (y2 / 16 + y2) 1085102592571150095 a3 (by decide)
    have e2 := wrap_u64n a3
    rw [b3] at e1
    rw [Int.natCast_add, Int.natCast_ediv] at e1 e2
    rw [show ((y2 : Int) / 16) = ((y2 : Int) / ((16 : Nat) : Int)) from rfl, show (1085102592571150095 : Int) = ((1085102592571150095 : Nat) : Int) from rfl, e2, e1]
  have h4 : IntKind.u64.wrap ((y3 : Int) + (y3 : Int) / 256) = (y4 : Int) := by
    rw [← a4]
    exact wrap_u64n (a := y3 + y3 / 256) (by omega)
  have h5 : IntKind.u64.wrap ((y4 : Int) + (y4 : Int) / 65536) = (y5 : Int) := by
    rw [← a5]
    exact wrap_u64n (a := y4 + y4 / 65536) (by omega)
  have h6 : IntKind.u64.wrap ((y5 : Int) + (y5 : Int) / 4294967296) = (y6 : Int) := by
    rw [← a6]
    exact wrap_u64n (a := y5 + y5 / 4294967296) (by omega)
  have h7 : bits .and .i64 (y6 : Int) 127 = (pcB 8 v : Int) := by rw [and127 y6 b6, a7]
  have h8 : (y6 : Int) < 9223372036854775808 := by omega
  have h9 : (0 : Int) ≤ (y6 : Int) := by omega
  generalize pcB 8 v = r at *
  clear a1 a2 a3 b3 a4 a5 a6 a7 b1 b2 b4 b5 b6 y3b hv
  go_enter Try.func48, Try.ntmps48
  go_wp2
  go_ret
  exact ⟨rfl, rfl⟩
end Go.Proofs.Ytejkbanecbjdoaa
