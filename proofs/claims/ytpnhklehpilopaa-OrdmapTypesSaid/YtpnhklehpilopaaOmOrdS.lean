/- The order of strings. -/
import Derived.Test.YtpnhklehpilopaaOmMath
import Derived.WalkKit
namespace Go.Proofs.Ytpnhklehpilopaa
open Go Go.RowKit

theorem bl_irr : ∀ x : List UInt8, Op.bytesLess x x = false
  | [] => rfl
  | a :: x => by
    have := bl_irr x
    simp [Op.bytesLess, this]
theorem bl_tra : ∀ x y z : List UInt8, Op.bytesLess x y = true → Op.bytesLess y z = true → Op.bytesLess x z = true
  | [], [], _, h, _ => by simp [Op.bytesLess] at h
  | [], _ :: _, [], _, h => by simp [Op.bytesLess] at h
  | [], _ :: _, _ :: _, _, _ => rfl
  | _ :: _, [], _, h, _ => by simp [Op.bytesLess] at h
  | _ :: _, _ :: _, [], _, h => by simp [Op.bytesLess] at h
  | a :: x, b :: y, c :: z, h1, h2 => by
    simp only [Op.bytesLess, Bool.or_eq_true, decide_eq_true_eq, Bool.and_eq_true, beq_iff_eq, UInt8.lt_iff_toNat_lt] at *
    rcases h1 with h1 | ⟨rfl, h1⟩
    · rcases h2 with h2 | ⟨rfl, h2⟩
      · exact .inl (by omega)
      · exact .inl h1
    · rcases h2 with h2 | ⟨rfl, h2⟩
      · exact .inl h2
      · exact .inr ⟨rfl, bl_tra x y z h1 h2⟩
theorem bl_tot : ∀ x y : List UInt8, Op.bytesLess x y = false → Op.bytesLess y x = false → x = y
  | [], [], _, _ => rfl
  | [], _ :: _, h, _ => by simp [Op.bytesLess] at h
  | _ :: _, [], _, h => by simp [Op.bytesLess] at h
  | a :: x, b :: y, h1, h2 => by
    simp only [Op.bytesLess, Bool.or_eq_false_iff, decide_eq_false_iff_not, Bool.and_eq_false_imp, beq_iff_eq, UInt8.lt_iff_toNat_lt] at *
    have e : a = b := UInt8.toNat_inj.1 (by omega)
    subst e
    rw [bl_tot x y (h1.2 rfl) (h2.2 rfl)]

def ltS (a b : ByteArray) : Bool := Op.bytesLess a.toList b.toList

theorem toList_inj {a b : ByteArray} (h : a.toList = b.toList) : a = b := by
  rw [ByteArray.toList_eq, ByteArray.toList_eq] at h
  exact ByteArray.ext (Array.toList_inj.1 h)

theorem ordS : KOrd ltS := ⟨fun a => bl_irr _, fun a b c h1 h2 => bl_tra _ _ _ h1 h2, fun a b h1 h2 => toList_inj (bl_tot _ _ h1 h2)⟩

theorem ltS_geq (a b : ByteArray) : (!ltS a b) = !(Op.bytesLess a.toList b.toList) := rfl
theorem ltS_gtr (a b : ByteArray) : (!(Op.bytesLess a.toList b.toList || a.toList == b.toList)) = ltS b a := by
  cases h1 : Op.bytesLess a.toList b.toList with
  | true =>
    cases h2 : ltS b a with
    | false => rfl
    | true => have := bl_tra _ _ _ h1 h2; rw [bl_irr] at this; cases this
  | false =>
    cases h2 : ltS b a with
    | true =>
      have : (a.toList == b.toList) = false := by
        rw [beq_eq_false_iff_ne]
        intro e
        have e2 := toList_inj e
        subst e2
        unfold ltS at h2
        rw [bl_irr] at h2; cases h2
      rw [this]; rfl
    | false =>
      have := bl_tot _ _ h1 h2
      simp [this]
end Go.Proofs.Ytpnhklehpilopaa
