/- The landed code of package key: Name; all that the laws of stage 5 ask. -/
import Derived.Test.YtogkabdampkbjaaDoorFmt5
namespace Go.Proofs.YtogkabdampkbjaaDoor
open Go Go.RowKit

set_option maxHeartbeats 1600000 in
set_option maxRecDepth 100000 in
theorem lName_any (n : Int) (w : World) (h0 : -9223372036854775808 ≤ n) (h1 : n ≤ 9223372036854775807) (hT : PowTab w) :
    Calls Tryd.prog 22 #[.int .i64 n] w fun e w' => e = .returned (.tuple #[.string (kName n).1, .int .i64 (kName n).2]) ∧ Below w.heap.size w w' := by
  obtain ⟨r, hr⟩ : ∃ r, r = kName n := ⟨_, rfl⟩
  rw [← hr]
  unfold kName at hr
  by_cases hn : n < 0
  · rw [if_pos (.inl hn)] at hr
    subst hr
    go_enter Tryd.func22, Tryd.ntmps22
    go_wp2_with fail
    go_ret2
    exact ⟨rfl, Below.refl _ _⟩
  by_cases hb : 999999 < n
  · rw [if_pos (.inr hb)] at hr
    subst hr
    go_enter Tryd.func22, Tryd.ntmps22
    go_wp2_with fail
    go_ret2
    exact ⟨rfl, Below.refl _ _⟩
  rw [if_neg (by omega)] at hr
  obtain ⟨k, rfl⟩ : ∃ k : Nat, n = (k : Int) := ⟨n.toNat, by omega⟩
  rw [Int.toNat_natCast] at hr
  have HD := Lib.hid (Digits_any k (by omega) w hT)
  have hwr : IntKind.u64.wrap (k : Int) = (k : Int) := by
    have hm : (k : Int) % 18446744073709551616 = (k : Int) := by omega
    unfold IntKind.wrap
    simp [IntKind.bits, IntKind.signed, hm]
  have HR := Lib.hid hr
  have hsz : ¬ 9223372036854775807 < 1 + (⟨(Lib.decDigits k).toArray⟩ : ByteArray).size := by
    have h20 : Lib.nDigits k ≤ 20 := by
      by_cases k1 : 1 ≤ k
      · have := Lib.numDigits_eq k k1 (by omega)
        split at this <;> omega
      · obtain rfl : k = 0 := by omega
        rw [Lib.nDigits]; simp
    have : (⟨(Lib.decDigits k).toArray⟩ : ByteArray).size = Lib.nDigits k := by rw [← Lib.decDigits_length]; rfl
    omega
  generalize (⟨(Lib.decDigits k).toArray⟩ : ByteArray) = ds at *
  clear hr hT
  go_enter Tryd.func22, Tryd.ntmps22
  go_wp2_with (go_at_call 33; refine HD.out.mono ?_; rintro e w1 ⟨rfl, hb1⟩)
  go_ret2
  obtain rfl := HR.out
  exact ⟨rfl, hb1⟩

/-- The tables that the landed code reads. -/
theorem var_lt {w : World} {n : String} {cs : Array Value} {g : Nat} (hg : Tryd.prog.globalNamed n = some g) (h : w.var? Tryd.prog n = some cs) : g < w.heap.size := by
  unfold World.var? at h
  simp only [hg, Option.bind_some] at h
  rcases Nat.lt_or_ge g w.heap.size with h' | h'
  · exact h'
  · rw [Array.getElem?_eq_none h'] at h; simp at h

theorem gPow : Tryd.prog.globalNamed "internal/strconv.uint64pow10" = some 1 := by kernel_rfl

theorem PowTab.below {w w' : World} (h : PowTab w) (hb : Below w.heap.size w w') : PowTab w' := by
  unfold PowTab Lib.TabIs at h ⊢
  exact var?_below hb gPow (var_lt gPow h) h

theorem key_ok : KeyOk PowTab where
  below _ _ h hb := h.below hb
  check s w hl _ := lCheck_any s w hl
  fits s m w hl _ _ _ := lFits_any s m w hl
  order a b w _ _ _ := lOrder_any a b w
  common a b w ha hb _ := lCommon_any a b w ha hb
  next s w hl _ := lNext_any s w hl
  name n w h0 h1 h := lName_any n w h0 h1 h
  rep s c w h0 h1 _ := Tryd.strings_Repeat s c w (by omega) (by omega)
  idx s c w _ := (Tryd.strings_IndexByte s c w).mono fun _ _ ⟨he, hw⟩ => ⟨he, hw ▸ Below.refl _ _⟩
  itoa n w hn h := (Tryd.strconv_Itoa n (by omega) (by omega) w h).mono fun e w' ⟨he, k, os, hw⟩ => by
    refine ⟨?_, ?_⟩
    · rw [he]
      unfold Lib.itoa
      rw [if_neg (by omega), Int.toNat_natCast]
    · rw [hw]
      exact ⟨rfl, rfl, rfl, by show w.heap.size ≤ ((w.drewN k).heap ++ os).size; rw [Array.size_append]; exact Nat.le_add_right _ _, fun i hi => by show ((w.drewN k).heap ++ os)[i]? = _; rw [Array.getElem?_append_left (by exact hi)]; rfl⟩
end Go.Proofs.YtogkabdampkbjaaDoor
