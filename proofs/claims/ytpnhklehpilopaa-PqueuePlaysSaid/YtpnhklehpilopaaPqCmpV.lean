/- What a comparison of two priorities answers. Of no program. -/
import Derived.Test.YtpnhklehpilopaaPqMem
import Derived.Test.YtpnhklehpilopaaOmOrdS
namespace Go.Proofs.Ytpnhklehpilopaa
open Go Go.RowKit

def cmpV {α : Type} (lt : α → α → Bool) (x y : α) : Int := if lt x y = true then -1 else if lt y x = true then 1 else 0

theorem eqReflltI (x : Int) : (x == x) = true := by simp
theorem eqReflltS (x : ByteArray) : (x.toList == x.toList) = true := by simp
theorem gtrltI (x y : Int) (_ : ltI x y = false) : decide (y < x) = ltI y x := rfl
theorem gtrltS (x y : ByteArray) (h : ltS x y = false) : (x.toList == y.toList) = !ltS y x := by
  have := ltS_gtr x y
  unfold ltS at h
  rw [h, Bool.false_or] at this
  rw [← this, Bool.not_not]

theorem cmpV_cases {α : Type} (lt : α → α → Bool) (x y : α) : cmpV lt x y = -1 ∨ cmpV lt x y = 0 ∨ cmpV lt x y = 1 := by
  unfold cmpV; split
  · exact .inl rfl
  · split
    · exact .inr (.inr rfl)
    · exact .inr (.inl rfl)

/-- The first of two that is not 0. -/
def orV (a b : Int) : Int := if a = 0 then b else a

theorem orV_bef {α : Type} {lt : α → α → Bool} (O : KOrd lt) (x y : Nat × α) : decide (orV (cmpV lt x.2 y.2) (cmpV ltI (x.1 : Int) (y.1 : Int)) < 0) = befQ lt x y := by
  unfold orV cmpV befQ ltI
  cases h1 : lt x.2 y.2 with
  | true => simp
  | false =>
    cases h2 : lt y.2 x.2 with
    | true => simp
    | false =>
      by_cases h3 : x.1 < y.1
      · simp [h3]
      · by_cases h4 : y.1 < x.1 <;> simp [h3, h4]

theorem orV_cases {α : Type} {lt : α → α → Bool} (x y : Nat × α) : -1 ≤ orV (cmpV lt x.2 y.2) (cmpV ltI (x.1 : Int) (y.1 : Int)) ∧ orV (cmpV lt x.2 y.2) (cmpV ltI (x.1 : Int) (y.1 : Int)) ≤ 1 := by
  unfold orV
  have h1 := cmpV_cases lt x.2 y.2
  have h2 := cmpV_cases ltI (x.1 : Int) (y.1 : Int)
  split <;> omega
end Go.Proofs.Ytpnhklehpilopaa
