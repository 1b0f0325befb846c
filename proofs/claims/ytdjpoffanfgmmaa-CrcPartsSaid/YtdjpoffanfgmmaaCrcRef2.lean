/- The document's own apply, Shift and Combine (drumlinref02). -/
import Derived.Test.YtdjpoffanfgmmaaCrcRef1
namespace Go.Proofs.Ytdjpoffanfgmmaa
open Go Go.RowKit

theorem shr_u32 (x : BitVec 32) (k : Nat) : (x.toNat : Int) / 2 ^ k = ((x >>> k).toNat : Int) := by
  rw [BitVec.toNat_ushiftRight, Nat.shiftRight_eq_div_pow, Int.natCast_ediv, Int.natCast_pow]; rfl

theorem bit_shr (x : BitVec 32) (k : Nat) : (x >>> k).getLsbD 0 = x.getLsbD k := by
  rw [BitVec.getLsbD_ushiftRight, Nat.add_zero]

/-- Columns of a matrix in memory. -/
def Cols (w : World) (g : Nat) (m : Nat → BitVec 32) : Prop := ∀ i, i < 32 → w.cell? ⟨g, i, none⟩ = some (.int .u32 ((m i).toNat : Int))

theorem rapply_any (g : Nat) (m : Nat → BitVec 32) (x : BitVec 32) (w : World) (hm : Cols w g m) :
    Calls Try.prog 31 #[.slice (some ⟨g, 0, none⟩) 32 32, .int .u32 (x.toNat : Int)] w fun e w' => e = .returned (.int .u32 ((app m x 32).toNat : Int)) ∧ w = w' := by
  have HM := Lib.hid hm
  clear hm
  go_enter Try.func31, Try.ntmps31
  go_wp2
  go_loop [5, 6] (fun v i => ∃ k : Nat, k ≤ 32 ∧ i = .int .i64 k ∧ v = .int .u32 ((app m x k).toNat : Int)) (fun _ i => 32 - (intOf i).toNat)
  case atStart => exact ⟨0, by omega, rfl, rfl⟩
  case round =>
    obtain ⟨k, hk, rfl, rfl⟩ := hrel
    by_cases hlt : k < 32
    · have hcell := HM.out k hlt
      have hb := and1_u32 (x >>> k)
      rw [← shr_u32, bit_shr] at hb
      cases hx : x.getLsbD k with
      | true =>
        have hn : app m x (k + 1) = app m x k ^^^ m k := by simp only [app]; rw [hx, if_pos rfl]
        have hxx := xor_u32 (app m x k) (m k)
        rw [← hn] at hxx
        rw [hx, if_pos rfl] at hb
        have HX := Lib.hid hxx
        clear hx hn hxx
        go_wp2
        go_round
        case rel => exact ⟨k + 1, by omega, by go_num, congrArg (Value.int .u32) HX.out⟩
        case measure => simp [intOf]; omega
      | false =>
        have hn : app m x (k + 1) = app m x k := by simp only [app]; rw [hx, if_neg (by decide), BitVec.xor_zero]
        rw [hx, if_neg (by decide)] at hb
        have HN := Lib.hid hn
        clear hx hn
        go_wp2
        go_round
        case rel => exact ⟨k + 1, by omega, by go_num, by rw [HN.out]⟩
        case measure => simp [intOf]; omega
    · have hk32 : k = 32 := by omega
      subst hk32
      go_wp2
      go_ret
      exact ⟨rfl, rfl⟩
end Go.Proofs.Ytdjpoffanfgmmaa
