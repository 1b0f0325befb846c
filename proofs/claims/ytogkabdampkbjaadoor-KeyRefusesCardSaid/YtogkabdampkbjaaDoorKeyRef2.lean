/- The document's own functions on keys (drumlinref05): Common, Order. -/
import Derived.Test.YtogkabdampkbjaaDoorKeyRef
namespace Go.Proofs.YtogkabdampkbjaaDoor
open Go Go.RowKit

theorem drewN_below (w : World) (n : Nat) : Below w.heap.size w (w.drewN n) := below_drewN (Below.refl _ _) n

set_option maxHeartbeats 1600000 in
set_option maxRecDepth 100000 in
theorem rCommon_any (a b : ByteArray) (w : World) (ha : a.size ≤ 1000000) :
    Calls Tryd.prog 19 #[.string a, .string b] w fun e w' => e = .returned (.int .i64 (comL (numS a) (numS b) : Nat)) ∧ Below w.heap.size w w' := by
  have HXa := Lib.hid (index_s a)
  have HXb := Lib.hid (index_s b)
  have hle := comL_le (numS a) (numS b)
  rw [numS_length, numS_length] at hle
  have HAt := Lib.hid (comL_at (numS a) (numS b))
  have HSt := Lib.hid (comL_stop (numS a) (numS b))
  rw [numS_length, numS_length] at HSt
  obtain ⟨hla, hlb⟩ := hle
  generalize comL (numS a) (numS b) = c at *
  go_enter Tryd.func19, Tryd.ntmps19
  go_wp2_with fail
  go_loopw [5] (fun i wr => ∃ k : Nat, k ≤ c ∧ i = .int .i64 k ∧ Hid (Below w.heap.size w wr)) (fun i _ => c - (intOf i).toNat)
  case atStart => exact ⟨0, by omega, rfl, Below.refl _ _⟩
  case round =>
    obtain ⟨k, hk, rfl, HB⟩ := hrel
    have hk0 : (0 : Int) ≤ (k : Int) := by omega
    by_cases hlt : k < c
    · have hka : (k : Int) < (a.size : Int) := by omega
      have hkb : (k : Int) < (b.size : Int) := by omega
      have ixa := HXa.out k (by omega)
      have ixb := HXb.out k (by omega)
      rw [← HAt.out k hlt] at ixb
      generalize (numS a).getD k 0 = x at *
      go_wp2_with fail
      go_quiet (fail)
      rename_i nq
      have HN := Lib.hid (below_drewN HB.out nq)
      generalize wr.drewN nq = wz at *
      go_wp2_with fail
      go_roundw
      case rel => exact ⟨k + 1, by omega, by go_num, HN⟩
      case measure => simp [intOf]; omega
    · have hkc : k = c := by omega
      subst hkc
      by_cases hA : k < a.size
      · have hka : (k : Int) < (a.size : Int) := by omega
        by_cases hB : k < b.size
        · have hkb : (k : Int) < (b.size : Int) := by omega
          have hne := HSt.out hA hB
          have ixa := HXa.out k hA
          have ixb := HXb.out k hB
          generalize (numS a).getD k 0 = x at *
          generalize (numS b).getD k 0 = y at *
          have hxy : (x == y) = false := by rw [beq_eq_false_iff_ne]; exact hne
          go_wp2_with fail
          go_quiet (fail)
          rename_i nq
          have HN := Lib.hid (below_drewN HB.out nq)
          generalize wr.drewN nq = wz at *
          go_wp2_with fail
          go_ret
          exact ⟨rfl, HN.out⟩
        · have hkb : ¬ (k : Int) < (b.size : Int) := by omega
          have hkb2 : ¬ k < b.size := hB
          go_wp2_with fail
          go_quiet (fail)
          rename_i nq
          have HN := Lib.hid (below_drewN HB.out nq)
          generalize wr.drewN nq = wz at *
          go_wp2_with fail
          go_ret
          exact ⟨rfl, HN.out⟩
      · have hka : ¬ (k : Int) < (a.size : Int) := by omega
        have hka2 : ¬ k < a.size := hA
        go_wp2_with fail
        go_quiet (fail)
        rename_i nq
        have HN := Lib.hid (below_drewN HB.out nq)
        generalize wr.drewN nq = wz at *
        go_wp2_with fail
        go_ret
        exact ⟨rfl, HN.out⟩

set_option maxHeartbeats 1600000 in
set_option maxRecDepth 100000 in
theorem rOrder_any (a b : ByteArray) (w : World) (ha : a.size ≤ 1000000) :
    Calls Tryd.prog 17 #[.string a, .string b] w fun e w' => e = .returned (.int .i64 (ordL (numS a) (numS b))) ∧ Below w.heap.size w w' := by
  have HC := Lib.hid (rCommon_any a b w ha)
  have hr := ordL_com (numS a) (numS b)
  rw [numS_length, numS_length] at hr
  have hle := comL_le (numS a) (numS b)
  rw [numS_length, numS_length] at hle
  obtain ⟨hla, hlb⟩ := hle
  have HXa := Lib.hid (index_s a)
  have HXb := Lib.hid (index_s b)
  generalize ordL (numS a) (numS b) = r at *
  generalize comL (numS a) (numS b) = k at *
  have hk0 : (0 : Int) ≤ (k : Int) := by omega
  by_cases hA : k = a.size
  · have hka : ((k : Int) == (a.size : Int)) = true := by rw [beq_iff_eq]; omega
    by_cases hB : k = b.size
    · have hkb : ((k : Int) == (b.size : Int)) = true := by rw [beq_iff_eq]; omega
      rw [if_pos ⟨hA, hB⟩] at hr
      subst hr
      clear hA hB
      go_enter Tryd.func17, Tryd.ntmps17
      go_wp2_with fail
      refine HC.out.mono ?_
      rintro e w1 ⟨rfl, hb1⟩
      go_wp2_with fail
      go_ret
      exact ⟨rfl, hb1⟩
    · have hkb : ((k : Int) == (b.size : Int)) = false := by rw [beq_eq_false_iff_ne]; omega
      rw [if_neg (fun h => hB h.2), if_pos (.inl hA)] at hr
      subst hr
      clear hA hB
      go_enter Tryd.func17, Tryd.ntmps17
      go_wp2_with fail
      refine HC.out.mono ?_
      rintro e w1 ⟨rfl, hb1⟩
      have HB1 := Lib.hid hb1
      clear hb1
      go_wp2_with fail
      go_quiet (fail)
      rename_i nq
      have HN := Lib.hid (below_drewN HB1.out nq)
      generalize w1.drewN nq = wz at *
      go_wp2_with fail
      go_ret
      exact ⟨rfl, HN.out⟩
  · have hka : ((k : Int) == (a.size : Int)) = false := by rw [beq_eq_false_iff_ne]; omega
    have hkla : (k : Int) < (a.size : Int) := by omega
    rw [if_neg (fun h => hA h.1)] at hr
    by_cases hB : k < b.size
    · have hklb : (k : Int) < (b.size : Int) := by omega
      have ixa := HXa.out k (by omega)
      have ixb := HXb.out k hB
      generalize (numS a).getD k 0 = x at *
      generalize (numS b).getD k 0 = y at *
      by_cases hxy : x < y
      · rw [if_pos (.inr ⟨hB, hxy⟩)] at hr
        subst hr
        clear hA
        go_enter Tryd.func17, Tryd.ntmps17
        go_wp2_with fail
        refine HC.out.mono ?_
        rintro e w1 ⟨rfl, hb1⟩
        have HB1 := Lib.hid hb1
        clear hb1
        go_wp2_with fail
        go_quiet (fail)
        rename_i nq
        have HN := Lib.hid (below_drewN HB1.out nq)
        generalize w1.drewN nq = wz at *
        go_wp2_with fail
        go_ret
        exact ⟨rfl, HN.out⟩
      · rw [if_neg (by rintro (h | h); exact hA h; exact hxy h.2)] at hr
        subst hr
        have hyx : y ≤ x := by omega
        clear hA
        go_enter Tryd.func17, Tryd.ntmps17
        go_wp2_with fail
        refine HC.out.mono ?_
        rintro e w1 ⟨rfl, hb1⟩
        have HB1 := Lib.hid hb1
        clear hb1
        go_wp2_with fail
        go_quiet (fail)
        rename_i nq
        have HN := Lib.hid (below_drewN HB1.out nq)
        generalize w1.drewN nq = wz at *
        go_wp2_with fail
        go_ret
        exact ⟨rfl, HN.out⟩
    · have hklb : ¬ (k : Int) < (b.size : Int) := by omega
      have hklb2 : ¬ k < b.size := hB
      rw [if_neg (by rintro (h | h); exact hA h; exact hB h.1)] at hr
      subst hr
      clear hA
      go_enter Tryd.func17, Tryd.ntmps17
      go_wp2_with fail
      refine HC.out.mono ?_
      rintro e w1 ⟨rfl, hb1⟩
      have HB1 := Lib.hid hb1
      clear hb1
      go_wp2_with fail
      go_quiet (fail)
      rename_i nq
      have HN := Lib.hid (below_drewN HB1.out nq)
      generalize w1.drewN nq = wz at *
      go_wp2_with fail
      go_ret
      exact ⟨rfl, HN.out⟩
end Go.Proofs.YtogkabdampkbjaaDoor
