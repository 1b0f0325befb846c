/- The document's own Fits, Append and Uint (drumlinref01). -/
import Derived.Test.YtcafenmkcjlhgaaDoorApi2
import Derived.Laws.AppendOwnNone
namespace Go.Proofs.YtcafenmkcjlhgaaDoor
open Go Go.RowKit

theorem rwidth_any (n : Int) (w : World) :
    Calls Tryd.prog 28 #[.int .i64 n] w fun e w' => e = .returned (.bool (isW n)) ∧ w = w' := by
  by_cases hm : isW n = true
  · rcases isW_cases hm with rfl | rfl | rfl | rfl
    all_goals
      clear hm
      go_enter Tryd.func28, Tryd.ntmps28
      go_wp2
      go_ret
      exact ⟨rfl, rfl⟩
  · have hm : isW n = false := by simpa using hm
    have h1 : (n == 1) = false := by cases hb : (n == 1) <;> simp_all [isW]
    have h2 : (n == 2) = false := by cases hb : (n == 2) <;> simp_all [isW]
    have h4 : (n == 4) = false := by cases hb : (n == 4) <;> simp_all [isW]
    have h8 : (n == 8) = false := by cases hb : (n == 8) <;> simp_all [isW]
    have HM := Lib.hid hm
    clear hm
    go_enter Tryd.func28, Tryd.ntmps28
    go_wp2
    go_ret
    exact ⟨by rw [HM.out]; rfl, rfl⟩

theorem div_step (n : Int) (k : Nat) : n / 256 ^ k / 256 = n / 256 ^ (k + 1) := by
  rw [Int.ediv_ediv_of_nonneg (by exact Int.pow_nonneg (by decide)), Int.pow_succ]

theorem u64_wrap {q : Int} (h0 : 0 ≤ q) (h1 : q ≤ 18446744073709551615) : IntKind.u64.wrap q = q := by
  rw [IntKind.wrap_u64]; omega

theorem u64_div {q : Int} (d : Int) (hd : 0 < d) (h0 : 0 ≤ q) (h1 : q ≤ 18446744073709551615) : IntKind.u64.wrap (q.tdiv d) = q / d := by
  rw [Int.tdiv_eq_ediv_of_nonneg h0]
  have h2 : 0 ≤ q / d := Int.ediv_nonneg h0 (by omega)
  have h3 : q / d ≤ q := Int.ediv_le_self d h0
  exact u64_wrap h2 (by omega)

theorem rFits_any (n : Int) (m : Int) (w : World) (h0 : 0 ≤ n) (h1 : n ≤ 18446744073709551615) :
    Calls Tryd.prog 16 #[.int .u64 n, .int .i64 m] w fun e w' => e = .returned (.bool (fitsI n m)) ∧ w = w' := by
  by_cases hm : isW m = true
  · have hm0 : 0 ≤ m ∧ m ≤ 8 := by rcases isW_cases hm with h | h | h | h <;> omega
    obtain ⟨j, rfl⟩ := Int.eq_ofNat_of_zero_le hm0.1
    have hj : j ≤ 8 := by omega
    have hf : fitsI n (j : Nat) = (n / 256 ^ j == 0) := by unfold fitsI; rw [hm, Bool.true_and, Int.toNat_natCast]
    have HM := Lib.hid hm
    have HF := Lib.hid hf
    clear hm hm0 hf
    go_enter Tryd.func16, Tryd.ntmps16
    go_wp2_with (go_at_call 28; refine (rwidth_any j _).mono ?_; rw [HM.out]; rintro e w' ⟨rfl, rfl⟩)
    go_loop [0, 5] (fun v i => ∃ k : Nat, k ≤ j ∧ i = .int .i64 k ∧ v = .int .u64 (n / 256 ^ k)) (fun _ i => j - (intOf i).toNat)
    case atStart => exact ⟨0, Nat.zero_le _, rfl, by simp⟩
    case round =>
      obtain ⟨k, hk, rfl, rfl⟩ := hrel
      have hst := div_step n k
      have hnn : 0 ≤ n / 256 ^ k := Int.ediv_nonneg h0 (Int.pow_nonneg (by decide))
      obtain ⟨q, hq⟩ : ∃ q, q = n / 256 ^ k := ⟨_, rfl⟩
      rw [← hq] at hst hnn
      have hqn : q ≤ n := by rw [hq]; exact Int.ediv_le_self _ h0
      have hst2 := u64_div 256 (by decide) hnn (by omega)
      rw [hst] at hst2
      have HSt := Lib.hid hst2
      have HQ := Lib.hid hq
      by_cases hlt : k < j
      · rw [← hq]
        clear hst hst2 hq h1 hqn
        go_wp2
        go_round
        case rel => exact ⟨k + 1, by omega, by go_num, by rw [HSt.out]⟩
        case measure => simp [intOf]; omega
      · have hkj : k = j := by omega
        subst hkj
        rw [← hq]
        clear hst hst2 hq h1 hqn
        go_wp2
        go_ret
        exact ⟨by rw [HF.out, ← HQ.out]; rfl, rfl⟩
  · have hm : isW m = false := by simpa using hm
    have hf : fitsI n m = false := by unfold fitsI; rw [hm, Bool.false_and]
    have HM := Lib.hid hm
    have HF := Lib.hid hf
    clear hm hf
    go_enter Tryd.func16, Tryd.ntmps16
    go_wp2_with (go_at_call 28; refine (rwidth_any m _).mono ?_; rw [HM.out]; rintro e w' ⟨rfl, rfl⟩)
    go_ret
    exact ⟨by rw [HF.out]; rfl, rfl⟩

set_option maxHeartbeats 1600000 in
theorem rAppend_ok (p : Option Addr) (len cap : Nat) (xs : List Int) (n : Int) (m : Nat) (w : World) (hw : isW m = true) (hf : fitsI n m = true) (hl : len ≤ 1000000) (h0 : 0 ≤ n) (h1 : n ≤ 18446744073709551615)
    (hS : Sl w p len cap xs) :
    Calls Tryd.prog 11 #[.slice p len cap, .int .u64 n, .int .i64 m] w fun e w' =>
      ∃ v, e = .returned (.tuple #[v, .int .i64 0]) ∧ w'.ownsRow w.heap.size 5 1 v (len + m) ((xs ++ le n m).map (Value.int .u8)) ∧ Below w.heap.size w w' := by
  have hm8 : m ≤ 8 := by rcases isW_cases hw with h | h | h | h <;> omega
  have HW := Lib.hid hw
  have HF := Lib.hid hf
  have HS := Lib.hid hS
  have HN := Lib.hid h1
  obtain ⟨i0, hi, hz0, hz1, hz2⟩ := info_parts Tryd.info5u
  have hbA : Below w.heap.size w (w.alloc (.cells #[] 5)) := (Below.refl _ _).alloc (Nat.le_refl _) _
  have hownA : (w.alloc (.cells #[] 5)).ownsRow w.heap.size 5 1 (.slice (some ⟨w.heap.size, 0, none⟩) 0 0) 0 [] := World.ownsRow_made _ _ 0 (Nat.le_refl _) (Nat.zero_le _) rfl
  have HBA := Lib.hid hbA
  have HOA := Lib.hid hownA
  have HSA := Lib.hid (hS.below hbA)
  clear hw hf hS hbA hownA
  cases p with
  | none =>
    have hn := HS.out.nil rfl
    obtain ⟨rfl, rfl⟩ := hn
    have hx0 : xs = [] := List.eq_nil_of_length_eq_zero HS.out.len
    subst hx0
    have hown1 := HOA.out
    have HBel1 := HBA
    clear h1
    go_enter Tryd.func11, Tryd.ntmps11
    go_wp2_with (first
       | (go_at_call 28; refine (rwidth_any m _).mono ?_; rw [HW.out]; rintro e w' ⟨rfl, rfl⟩)
       | (go_at_call 16; refine (rFits_any n m _ h0 HN.out).mono ?_; rw [HF.out]; rintro e w' ⟨rfl, rfl⟩)
       | (at_builtin; refine wpList_append_own_none rfl _ _ 22 rfl w.heap.size 5 i0 1 Tryd.underlying22 hi _ _ _ rfl HOA.out rfl ?_))
    go_loopw [1, 8, 9] (fun vn v i wr => ∃ k : Nat, k ≤ m ∧ i = .int .i64 k ∧ vn = .int .u64 (n / 256 ^ k) ∧ wr.ownsRow w.heap.size 5 1 v (0 + k) ((le n k).map (Value.int .u8)) ∧ Hid (Below w.heap.size w wr))
      (fun _ _ i _ => m - (intOf i).toNat)
    case atStart => exact ⟨0, Nat.zero_le _, rfl, by simp, by simpa [le] using hown1, HBel1⟩
    case round =>
      obtain ⟨k, hk, rfl, rfl, hown, HBel⟩ := hrel
      have hst := div_step n k
      have hnn : 0 ≤ n / 256 ^ k := Int.ediv_nonneg h0 (Int.pow_nonneg (by decide))
      have hle : n / 256 ^ k % 256 = n / 2 ^ (8 * k) % 256 := by rw [pow256]
      obtain ⟨q, hq⟩ : ∃ q, q = n / 256 ^ k := ⟨_, rfl⟩
      rw [← hq] at hst hnn hle
      have hqn : q ≤ n := by rw [hq]; exact Int.ediv_le_self _ h0
      have hst2 := u64_div 256 (by decide) hnn (by have := HN.out; omega)
      rw [hst] at hst2
      have HSt := Lib.hid hst2
      have HLe := Lib.hid hle
      by_cases hlt : k < m
      · rw [← hq]
        clear hst hst2 hq hqn hle
        go_wp2_with (at_builtin; refine wpList_append_own _ rfl _ _ 22 rfl w.heap.size 5 i0 (.int .u8 0) 1 1 Tryd.underlying22 hi hz0 hz1 hz2 rfl (by decide) _ _ _ rfl (hown.alloc _) ⟨wr.heap.size, 0, none⟩ 1 1 [.int .u8 (q % 256)] rfl rfl (by intro t u ht; match t, ht with | 0, ht => simp at ht; subst ht; simp [Addr.add]) (by intro u hu; simp at hu; subst hu; rfl) (by unfold maxLen; omega) (by omega) (by have := HBel.out.size; simp; omega) ?_; intro v' w2 hown' hgrow _)
        have hrow : ∀ r, Value.ownBlock u8 = some r → w.heap.size ≤ r := fun r hr => (hown.lt r hr).1
        have HBel2 := Lib.hid ((HBel.out.alloc HBel.out.size _).grown hgrow (by have := HBel.out.size; simp; omega) hrow)
        have e : (le n (k + 1)).map (Value.int .u8) = (le n k).map (Value.int .u8) ++ [Value.int .u8 (q % 256)] := by
          rw [le_succ, HLe.out]; simp
        have HE := Lib.hid e
        have HO := Lib.hid hown'
        clear hown' hgrow hrow hown e
        go_wp2
        go_roundw
        case rel => exact ⟨k + 1, by omega, by go_num, by rw [HSt.out], by rw [HE.out]; exact HO.out, HBel2⟩
        case measure => simp [intOf]; omega
      · have hkm : k = m := by omega
        subst hkm
        clear hst hst2 hle hqn
        go_wp2
        go_ret2
        exact ⟨_, rfl, hown, HBel.out⟩
  | some x =>
    clear h1
    have HCells := Lib.hid (cells_of_in HSA.out.len HSA.out.bytes x rfl)
    go_enter Tryd.func11, Tryd.ntmps11
    go_wp2_with (first
       | (go_at_call 28; refine (rwidth_any m _).mono ?_; rw [HW.out]; rintro e w' ⟨rfl, rfl⟩)
       | (go_at_call 16; refine (rFits_any n m _ h0 HN.out).mono ?_; rw [HF.out]; rintro e w' ⟨rfl, rfl⟩)
       | (at_builtin; refine wpList_append_own _ rfl _ _ 22 rfl w.heap.size 5 i0 (.int .u8 0) 1 1 Tryd.underlying22 hi hz0 hz1 hz2 rfl (by decide) _ _ _ rfl HOA.out x len cap (xs.map (Value.int .u8)) rfl (by rw [List.length_map, HSA.out.len]; omega) HCells.out (ints_oneCell _ _) (by unfold maxLen; omega) (by omega) (by simp) ?_; intro v1 w1 hown1 hgrow1 _))
    rw [Nat.zero_add, List.nil_append] at hown1
    have HBel1 := Lib.hid (HBA.out.grown hgrow1 (by simp) (fun r hr => by cases hr; exact Nat.le_refl _))
    clear hgrow1
    go_wp2
    go_loopw [1, 8, 9] (fun vn v i wr => ∃ k : Nat, k ≤ m ∧ i = .int .i64 k ∧ vn = .int .u64 (n / 256 ^ k) ∧ wr.ownsRow w.heap.size 5 1 v (len + k) ((xs ++ le n k).map (Value.int .u8)) ∧ Hid (Below w.heap.size w wr))
      (fun _ _ i _ => m - (intOf i).toNat)
    case atStart => exact ⟨0, Nat.zero_le _, rfl, by simp, by simpa [le] using hown1, HBel1⟩
    case round =>
      obtain ⟨k, hk, rfl, rfl, hown, HBel⟩ := hrel
      have hst := div_step n k
      have hnn : 0 ≤ n / 256 ^ k := Int.ediv_nonneg h0 (Int.pow_nonneg (by decide))
      have hle : n / 256 ^ k % 256 = n / 2 ^ (8 * k) % 256 := by rw [pow256]
      obtain ⟨q, hq⟩ : ∃ q, q = n / 256 ^ k := ⟨_, rfl⟩
      rw [← hq] at hst hnn hle
      have hqn : q ≤ n := by rw [hq]; exact Int.ediv_le_self _ h0
      have hst2 := u64_div 256 (by decide) hnn (by have := HN.out; omega)
      rw [hst] at hst2
      have HSt := Lib.hid hst2
      have HLe := Lib.hid hle
      by_cases hlt : k < m
      · rw [← hq]
        clear hst hst2 hq hqn hle
        go_wp2_with (at_builtin; refine wpList_append_own _ rfl _ _ 22 rfl w.heap.size 5 i0 (.int .u8 0) 1 1 Tryd.underlying22 hi hz0 hz1 hz2 rfl (by decide) _ _ _ rfl (hown.alloc _) ⟨wr.heap.size, 0, none⟩ 1 1 [.int .u8 (q % 256)] rfl rfl (by intro t u ht; match t, ht with | 0, ht => simp at ht; subst ht; simp [Addr.add]) (by intro u hu; simp at hu; subst hu; rfl) (by unfold maxLen; omega) (by omega) (by have := HBel.out.size; simp; omega) ?_; intro v' w2 hown' hgrow _)
        have hrow : ∀ r, Value.ownBlock u8 = some r → w.heap.size ≤ r := fun r hr => (hown.lt r hr).1
        have HBel2 := Lib.hid ((HBel.out.alloc HBel.out.size _).grown hgrow (by have := HBel.out.size; simp; omega) hrow)
        have e : (xs ++ le n (k + 1)).map (Value.int .u8) = (xs ++ le n k).map (Value.int .u8) ++ [Value.int .u8 (q % 256)] := by
          rw [le_succ, HLe.out]; simp
        have HE := Lib.hid e
        have HO := Lib.hid hown'
        clear hown' hgrow hrow hown e
        go_wp2
        go_roundw
        case rel => exact ⟨k + 1, by omega, by go_num, by rw [HSt.out], by rw [HE.out]; exact HO.out, HBel2⟩
        case measure => simp [intOf]; omega
      · have hkm : k = m := by omega
        subst hkm
        clear hst hst2 hle hqn
        go_wp2
        go_ret2
        exact ⟨_, rfl, hown, HBel.out⟩

theorem rAppend_arg (v : Value) (n m : Int) (w : World) (hw : isW m = false) :
    Calls Tryd.prog 11 #[v, .int .u64 n, .int .i64 m] w fun e w' => e = .returned (.tuple #[.slice none 0 0, .int .i64 2]) ∧ w = w' := by
  have HW := Lib.hid hw
  clear hw
  go_enter Tryd.func11, Tryd.ntmps11
  go_wp2_with (go_at_call 28; refine (rwidth_any m _).mono ?_; rw [HW.out]; rintro e w' ⟨rfl, rfl⟩)
  go_ret2
  exact ⟨rfl, rfl⟩

theorem rAppend_over (v : Value) (n m : Int) (w : World) (hw : isW m = true) (hf : fitsI n m = false) (h0 : 0 ≤ n) (h1 : n ≤ 18446744073709551615) :
    Calls Tryd.prog 11 #[v, .int .u64 n, .int .i64 m] w fun e w' => e = .returned (.tuple #[.slice none 0 0, .int .i64 16]) ∧ w = w' := by
  have HW := Lib.hid hw
  have HF := Lib.hid hf
  have HN := Lib.hid h1
  clear hw hf h1
  go_enter Tryd.func11, Tryd.ntmps11
  go_wp2_with (first
     | (go_at_call 28; refine (rwidth_any m _).mono ?_; rw [HW.out]; rintro e w' ⟨rfl, rfl⟩)
     | (go_at_call 16; refine (rFits_any n m _ h0 HN.out).mono ?_; rw [HF.out]; rintro e w' ⟨rfl, rfl⟩))
  go_ret2
  exact ⟨rfl, rfl⟩
end Go.Proofs.YtcafenmkcjlhgaaDoor
