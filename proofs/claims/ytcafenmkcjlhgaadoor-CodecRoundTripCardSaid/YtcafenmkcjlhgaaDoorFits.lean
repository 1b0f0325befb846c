/- codec.Fits -/
import Derived.Test.YtcafenmkcjlhgaaDoorWidth
namespace Go.Proofs.YtcafenmkcjlhgaaDoor
open Go Go.RowKit

theorem Fits_any (n m : Int) (w : World) (h : WTab w) :
    Calls Tryd.prog 15 #[.int .u64 n, .int .i64 m] w fun e w' => e = .returned (.bool (fitsI n m)) ∧ w = w' := by
  have HT := Lib.hid h
  clear h
  by_cases hm : isW m = true
  · rcases isW_cases hm with rfl | rfl | rfl | rfl
    · clear hm
      go_enter Tryd.func15, Tryd.ntmps15
      go_wp2_with (go_at_call 27; refine (isWidth_any 1 _ HT.out).mono ?_; rintro e w' ⟨rfl, rfl⟩)
      go_ret
      exact ⟨rfl, rfl⟩
    · clear hm
      go_enter Tryd.func15, Tryd.ntmps15
      go_wp2_with (go_at_call 27; refine (isWidth_any 2 _ HT.out).mono ?_; rintro e w' ⟨rfl, rfl⟩)
      go_ret
      exact ⟨rfl, rfl⟩
    · clear hm
      go_enter Tryd.func15, Tryd.ntmps15
      go_wp2_with (go_at_call 27; refine (isWidth_any 4 _ HT.out).mono ?_; rintro e w' ⟨rfl, rfl⟩)
      go_ret
      exact ⟨rfl, rfl⟩
    · clear hm
      go_enter Tryd.func15, Tryd.ntmps15
      go_wp2_with (go_at_call 27; refine (isWidth_any 8 _ HT.out).mono ?_; rintro e w' ⟨rfl, rfl⟩)
      go_ret
      exact ⟨rfl, rfl⟩
  · have hm : isW m = false := by simpa using hm
    have hf : fitsI n m = false := by simp [fitsI, hm]
    have HM := Lib.hid hm
    have HF := Lib.hid hf
    clear hm hf
    go_enter Tryd.func15, Tryd.ntmps15
    go_wp2_with (go_at_call 27; refine (isWidth_any m _ HT.out).mono ?_; rw [HM.out]; rintro e w' ⟨rfl, rfl⟩)
    go_ret
    exact ⟨by rw [HF.out]; rfl, rfl⟩
end Go.Proofs.YtcafenmkcjlhgaaDoor
