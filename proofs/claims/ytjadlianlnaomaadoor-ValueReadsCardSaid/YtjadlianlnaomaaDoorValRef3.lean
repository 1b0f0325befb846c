/- The document's own functions on values (drumlinref06): Repeat, digits, Short. -/
import Derived.Test.YtjadlianlnaomaaDoorValRef2
import Derived.Test.YtjadlianlnaomaaDoorMath4
import Derived.Deep.RegionWith
namespace Go.Proofs.YtjadlianlnaomaaDoor
open Go Go.RowKit

/-- The first n numbers of a pattern that is repeated. -/
def repI (l : List Int) (n : Nat) : List Int := (List.range n).map fun i => l.getD (i % l.length) 0

theorem repI_succ (l : List Int) (n : Nat) : repI l (n + 1) = repI l n ++ [l.getD (n % l.length) 0] := by
  unfold repI; rw [List.range_succ, List.map_append]; rfl

theorem repI_length (l : List Int) (n : Nat) : (repI l n).length = n := by simp [repI]

theorem repI_rng (l : List Int) (h : ∀ x ∈ l, 0 ≤ x ∧ x < 256) (n : Nat) (hl : l ≠ [] ∨ n = 0) : ∀ y ∈ repI l n, 0 ≤ y ∧ y < 256 := by
  intro y hy
  unfold repI at hy
  rw [List.mem_map] at hy
  obtain ⟨i, hi, rfl⟩ := hy
  rw [List.mem_range] at hi
  rcases hl with hl | hl
  · exact getD_rng h _ (Nat.mod_lt _ (List.length_pos_iff.2 hl))
  · omega

/-- What Repeat returns. -/
def vRepeat (s : ByteArray) (n : Int) : ByteArray × Int :=
  if n < 0 ∨ (s.size = 0 ∧ 0 < n) then (⟨#[]⟩, 2) else if 512 < n then (⟨#[]⟩, 12) else (strI (repI (numS s) n.toNat), 0)

set_option maxHeartbeats 1600000 in
set_option maxRecDepth 100000 in
theorem rvRepeat_any (s : ByteArray) (n : Int) (w : World) (hl : s.size ≤ 1000000) :
    Calls Tryd.prog 21 #[.string s, .int .i64 n] w fun e w' => e = .returned (.tuple #[.string (vRepeat s n).1, .int .i64 (vRepeat s n).2]) ∧ Below w.heap.size w w' := by
  obtain ⟨r, hr⟩ : ∃ r, r = vRepeat s n := ⟨_, rfl⟩
  rw [← hr]
  unfold vRepeat at hr
  have hbe := isEmpty_s s
  by_cases h1 : n < 0
  · rw [if_pos (.inl h1)] at hr
    subst hr
    go_enter Tryd.func21, Tryd.ntmps21
    go_wp2_with fail
    go_ret2
    exact ⟨rfl, Below.refl _ _⟩
  by_cases h2 : s.size = 0 ∧ 0 < n
  · rw [if_pos (.inr h2)] at hr
    subst hr
    obtain ⟨h2a, h2b⟩ := h2
    have hs := size_zero s h2a
    subst hs
    clear hl h2a hbe
    go_enter Tryd.func21, Tryd.ntmps21
    go_wp2_with fail
    go_ret2
    exact ⟨rfl, Below.refl _ _⟩
  rw [if_neg (by omega)] at hr
  by_cases h4 : 512 < n
  · rw [if_pos h4] at hr
    subst hr
    have h5 : s.toList.isEmpty = false := by rw [hbe]; exact decide_eq_false (by omega)
    clear h2 hbe
    go_enter Tryd.func21, Tryd.ntmps21
    go_wp2_with fail
    go_ret2
    exact ⟨rfl, Below.refl _ _⟩
  rw [if_neg h4] at hr
  obtain ⟨N, rfl⟩ := Int.eq_ofNat_of_zero_le (show 0 ≤ n by omega)
  rw [Int.toNat_natCast] at hr
  have HRes := Lib.hid hr
  have HX := Lib.hid (numS_length s)
  have HRg := Lib.hid (numS_rng s)
  have HIx := Lib.hid (index_s s)
  obtain ⟨i0, hi, hz0, hz1, hz2⟩ := info_parts Tryd.infoB
  have HP : Hid (numS s ≠ [] ∨ N = 0) := by
    by_cases h0 : s.size = 0
    · exact .inr (by omega)
    · exact .inl fun hn => h0 (by rw [← numS_length, hn]; rfl)
  by_cases h6 : s.size = 0
  · have hN : N = 0 := by omega
    have h5 : s.toList.isEmpty = true := by rw [hbe]; exact decide_eq_true h6
    have hNi : ¬ (0 : Int) < (N : Int) := by omega
    clear hr hbe h2
    go_enter Tryd.func21, Tryd.ntmps21
    go_wp2_with fail
    go_loopw [6, 7] (fun v i wr => ∃ k : Nat, k ≤ N ∧ i = .int .i64 k ∧ wr.ownsRow w.heap.size 5 1 v k ((repI (numS s) k).map (Value.int .u8)) ∧ Hid (Below w.heap.size w wr))
      (fun _ i _ => N - (intOf i).toNat)
    case atStart => exact ⟨0, Nat.zero_le _, rfl, by simpa [repI] using World.ownsRow_nil _ _ _ _, Below.refl _ _⟩
    case round =>
      obtain ⟨k, hk, rfl, hown, HBel⟩ := hrel
      by_cases hlt : k < N
      · omega
      · have hkN : k = N := by omega
        subst hkN
        obtain ⟨p2, n2, c2, rfl, hS2⟩ := sl_owns hown (repI_rng _ HRg.out k HP.out)
        have hcv := conv_sl hS2
        clear hS2 hown
        have hres := HRes.out
        subst hres
        go_wp2_with fail
        go_ret2
        exact ⟨rfl, HBel.out⟩
  · have h5 : s.toList.isEmpty = false := by rw [hbe]; exact decide_eq_false h6
    clear hr hbe h2
    go_enter Tryd.func21, Tryd.ntmps21
    go_wp2_with fail
    go_loopw [6, 7] (fun v i wr => ∃ k : Nat, k ≤ N ∧ i = .int .i64 k ∧ wr.ownsRow w.heap.size 5 1 v k ((repI (numS s) k).map (Value.int .u8)) ∧ Hid (Below w.heap.size w wr))
      (fun _ i _ => N - (intOf i).toNat)
    case atStart => exact ⟨0, Nat.zero_le _, rfl, by simpa [repI] using World.ownsRow_nil _ _ _ _, Below.refl _ _⟩
    case round =>
      obtain ⟨k, hk, rfl, hown, HBel⟩ := hrel
      by_cases hlt : k < N
      · obtain ⟨q, hq⟩ : ∃ q, q = k % s.size := ⟨_, rfl⟩
        have hql : q < s.size := by rw [hq]; exact Nat.mod_lt _ (by omega)
        have ix0 := HIx.out q hql
        have hst := repI_succ (numS s) k
        rw [HX.out, ← hq] at hst
        have hrem : (k : Int) % (s.size : Int) = (q : Int) := by rw [hq]; rfl
        have hrem2 : (k : Int).tmod (s.size : Int) = (q : Int) := by rw [Int.tmod_eq_emod_of_nonneg (by omega)]; exact hrem
        generalize (numS s).getD q 0 = x at *
        have HSt := Lib.hid hst
        have hnz : ((s.size : Int) == 0) = false := by rw [beq_eq_false_iff_ne]; omega
        have hk5 : k ≤ 512 := by omega
        clear hst hq
        go_wp2_with (at_builtin; refine wpList_append_own _ rfl _ _ 35 rfl w.heap.size 5 i0 (.int .u8 0) 1 1 Tryd.underlying35 hi hz0 hz1 hz2 rfl (by decide) _ _ _ rfl (hown.alloc _) ⟨wr.heap.size, 0, none⟩ 1 1 [.int .u8 x] rfl rfl (by intro t u ht; match t, ht with | 0, ht => simp at ht; subst ht; simp [Addr.add]) (by intro u hu; simp at hu; subst hu; rfl) (by unfold maxLen; omega) (by omega) (by have := HBel.out.size; simp; omega) ?_; intro v' w2 hown' hgrow _)
        have hrow : ∀ q, Value.ownBlock u6 = some q → w.heap.size ≤ q := fun q hq => (hown.lt q hq).1
        have HBel2 := Lib.hid ((HBel.out.alloc HBel.out.size _).grown hgrow (by have := HBel.out.size; simp; omega) hrow)
        have HO := Lib.hid hown'
        clear hown' hgrow hrow hown
        go_wp2_with fail
        go_roundw
        case rel => exact ⟨k + 1, by omega, by go_num, by rw [HSt.out, List.map_append]; exact HO.out, HBel2⟩
        case measure => simp [intOf]; omega
      · have hkN : k = N := by omega
        subst hkN
        obtain ⟨p2, n2, c2, rfl, hS2⟩ := sl_owns hown (repI_rng _ HRg.out k HP.out)
        have hcv := conv_sl hS2
        clear hS2 hown
        have hres := HRes.out
        subst hres
        go_wp2_with fail
        go_ret2
        exact ⟨rfl, HBel.out⟩
end Go.Proofs.YtjadlianlnaomaaDoor
