/- The document's own functions on values (drumlinref06): Check, hex, digit, Text, Parse, Repeat. -/
import Derived.Test.YtjadlianlnaomaaDoorStr
import Derived.Deep.AppendLies
import Derived.Deep.RegionLaw
import Derived.BigGuard
import Derived.OwnWalk
import Derived.Laws.OwnMore
import Derived.LoopTactic
namespace Go.Proofs.YtjadlianlnaomaaDoor
open Go Go.RowKit

/-- What Check returns. -/
def vCheck (n : Nat) (most : Int) : Int := if most < 0 ∨ 512 < most then 2 else if most < (n : Int) then 12 else 0

theorem rvCheck_any (s : ByteArray) (m : Int) (w : World) :
    Calls Tryd.prog 15 #[.string s, .int .i64 m] w fun e w' => e = .returned (.int .i64 (vCheck s.size m)) ∧ w = w' := by
  unfold vCheck
  by_cases h1 : m < 0
  · rw [if_pos (.inl h1)]
    go_enter Tryd.func15, Tryd.ntmps15
    go_wp2
    go_ret
    exact ⟨rfl, rfl⟩
  · by_cases h2 : 512 < m
    · rw [if_pos (.inr h2)]
      go_enter Tryd.func15, Tryd.ntmps15
      go_wp2
      go_ret
      exact ⟨rfl, rfl⟩
    · rw [if_neg (by omega)]
      by_cases h3 : m < (s.size : Int)
      · rw [if_pos h3]
        go_enter Tryd.func15, Tryd.ntmps15
        go_wp2
        go_ret
        exact ⟨rfl, rfl⟩
      · rw [if_neg h3]
        go_enter Tryd.func15, Tryd.ntmps15
        go_wp2
        go_ret
        exact ⟨rfl, rfl⟩

theorem rvdigit_any (c : Int) (w : World) (h0 : 0 ≤ c) (h1 : c < 256) :
    Calls Tryd.prog 30 #[.int .u8 c] w fun e w' => e = .returned (.int .i64 (if hvOk c then hv c else -1)) ∧ w = w' := by
  by_cases a1 : c < 48
  · have e : (if hvOk c then hv c else -1) = -1 := by
      rw [if_neg]; simp [hvOk]; omega
    rw [e]
    go_enter Tryd.func30, Tryd.ntmps30
    go_wp2
    go_ret
    exact ⟨rfl, rfl⟩
  · by_cases a2 : c ≤ 57
    · have e : (if hvOk c then hv c else -1) = c - 48 := by
        rw [if_pos (by simp [hvOk]; omega)]; unfold hv; rw [if_pos (by omega)]
      rw [e]
      have hw := wrap_u8 (c - 48) (by omega) (by omega)
      go_enter Tryd.func30, Tryd.ntmps30
      go_wp2
      go_ret
      exact ⟨rfl, rfl⟩
    · by_cases a3 : c < 97
      · have e : (if hvOk c then hv c else -1) = -1 := by
          rw [if_neg]; simp [hvOk]; omega
        rw [e]
        go_enter Tryd.func30, Tryd.ntmps30
        go_wp2
        go_ret
        exact ⟨rfl, rfl⟩
      · by_cases a4 : c ≤ 102
        · have e : (if hvOk c then hv c else -1) = c - 97 + 10 := by
            rw [if_pos (by simp [hvOk]; omega)]; unfold hv; rw [if_neg (by omega), if_pos (by omega)]; omega
          rw [e]
          have hw := wrap_u8 (c - 97) (by omega) (by omega)
          go_enter Tryd.func30, Tryd.ntmps30
          go_wp2
          go_ret
          exact ⟨rfl, rfl⟩
        · have e : (if hvOk c then hv c else -1) = -1 := by
            rw [if_neg]; simp [hvOk]; omega
          rw [e]
          go_enter Tryd.func30, Tryd.ntmps30
          go_wp2
          go_ret
          exact ⟨rfl, rfl⟩

set_option maxHeartbeats 1600000 in
theorem rvhex_any (s : ByteArray) (w : World) (hl : s.size ≤ 1000000) :
    Calls Tryd.prog 27 #[.string s] w fun e w' => e = .returned (.string (strI (hexI (numS s)))) ∧ Below w.heap.size w w' := by
  obtain ⟨i0, hi, hz0, hz1, hz2⟩ := info_parts Tryd.infoB
  have HX := Lib.hid (numS_length s)
  have HRg := Lib.hid (numS_rng s)
  have HIx := Lib.hid (index_s s)
  go_enter Tryd.func27, Tryd.ntmps27
  go_wp2
  go_loopw [3, 4] (fun v i wr => ∃ k : Nat, k ≤ s.size ∧ i = .int .i64 k ∧ wr.ownsRow w.heap.size 5 1 v (2 * k) ((hexI ((numS s).take k)).map (Value.int .u8)) ∧ Hid (Below w.heap.size w wr))
    (fun _ i _ => s.size - (intOf i).toNat)
  case atStart => exact ⟨0, Nat.zero_le _, rfl, by simpa [hexI] using World.ownsRow_nil _ _ _ _, Below.refl _ _⟩
  case round =>
    obtain ⟨k, hk, rfl, hown, HBel⟩ := hrel
    by_cases hlt : k < s.size
    · have ix0 := HIx.out k hlt
      have hxr := getD_rng HRg.out k (by rw [HX.out]; exact hlt)
      have HST := Lib.hid (hexI_step (numS s) k (by rw [HX.out]; exact hlt))
      have hkb : (hexI ((numS s).take k)).length = 2 * k := by rw [hexI_length, List.length_take]; have := HX.out; omega
      generalize (numS s).getD k 0 = x at *
      obtain ⟨hx0, hx1⟩ := hxr
      have hq := quo_u8 x 16 hx0 hx1
      have hm := rem_u8 x 16 hx0
      rw [show ((16 : Nat) : Int) = 16 from rfl] at hq hm
      go_wp2
      have ix1 : ∀ w, (Instr.index 9 (Value.string { data := #[48, 49, 50, 51, 52, 53, 54, 55, 56, 57, 97, 98, 99, 100, 101, 102] }) (.int .u8 (x / 16))).run Tryd.prog w = .ok (.int .u8 (dgI (x / 16))) w := fun w => hexdig_at _ (by omega) (by omega) w
      have ix2 : ∀ w, (Instr.index 9 (Value.string { data := #[48, 49, 50, 51, 52, 53, 54, 55, 56, 57, 97, 98, 99, 100, 101, 102] }) (.int .u8 (x % 16))).run Tryd.prog w = .ok (.int .u8 (dgI (x % 16))) w := fun w => hexdig_at _ (by omega) (by omega) w
      go_region_law ((refine step_append_lies _ (by rfl) _ _ _ (by rfl) w.heap.size 5 i0 _ 1 1 Tryd.underlying35 hi hz0 hz1 hz2 rfl (by omega) u3 (2 * k) _ (by rfl) ((hown.alloc _).drew) ⟨wr.heap.size, 0, none⟩ 2 2 [.int .u8 (dgI (x / 16)), .int .u8 (dgI (x % 16))] (by rfl) (by rfl) (World.news_of_block (cs := #[.int .u8 (dgI (x / 16)), .int .u8 (dgI (x % 16))]) (t := 5) (fr := (0, 0)) (heap_alloc_new wr _)) (by simp [Value.oneCell']) (by omega) (by unfold maxLen; omega) (by omega) (by have := HBel.out.size; simp; omega) (wr.heap.size + 1) (by simp) ?_; intro gg capn w1 hown1 hgrow hat hlt2))
      all_goals
        have HO := Lib.hid hown1
        have hrow : ∀ r, u3.ownBlock = some r → w.heap.size ≤ r := fun r hr => (hown.lt r hr).1
        have HBel2 := Lib.hid (((HBel.out.alloc HBel.out.size (.cells #[.int .u8 (dgI (x / 16)), .int .u8 (dgI (x % 16))] 5)).drew).grown hgrow (by have := HBel.out.size; simp; omega) hrow)
        clear hown1 hgrow hat hlt2 hrow hown ix1 ix2
        go_wp2
        go_roundw
        case rel => exact ⟨k + 1, by omega, by go_num, by rw [HST.out]; exact HO.out, HBel2⟩
        case measure => simp [intOf]; omega
    · have hkl : k = s.size := by omega
      subst hkl
      have hxk : (numS s).take s.size = numS s := List.take_of_length_le (by rw [HX.out]; exact Nat.le_refl _)
      rw [hxk] at hown
      clear hxk
      obtain ⟨p2, n2, c2, rfl, hS2⟩ := sl_owns hown (hexI_rng _ HRg.out)
      have hcv := conv_sl hS2
      clear hS2 hown
      go_wp2
      go_ret
      exact ⟨rfl, HBel.out⟩
end Go.Proofs.YtjadlianlnaomaaDoor
