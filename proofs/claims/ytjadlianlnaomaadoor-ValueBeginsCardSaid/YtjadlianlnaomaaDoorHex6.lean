/- codec.hexValue, codec.Hex: as stage 1 has them, over the later stages' slices. -/
import Derived.Test.YtjadlianlnaomaaDoorStr
import Derived.Deep.AppendLies
import Derived.Deep.RegionLaw
import Derived.BigGuard
namespace Go.Proofs.YtjadlianlnaomaaDoor
open Go Go.RowKit

set_option maxHeartbeats 800000 in
theorem hexValue_any (c : Int) (w : World) (h0 : 0 ≤ c) (h1 : c < 256) :
    Calls Tryd.prog 35 #[.int .u8 c] w fun e w' => e = .returned (.tuple #[.int .u8 (hv c), .bool (hvOk c)]) ∧ w = w' := by
  by_cases a1 : 48 ≤ c
  · by_cases a2 : c ≤ 57
    · have e1 : hv c = c - 48 := by unfold hv; rw [if_pos ⟨a1, a2⟩]
      have e2 : hvOk c = true := by simp [hvOk, a1, a2]
      rw [e1, e2]
      clear e1 e2
      go_enter Tryd.func35, Tryd.ntmps35
      go_wp2
      go_ret2
      exact ⟨rfl, rfl⟩
    · by_cases a3 : 97 ≤ c
      · by_cases a4 : c ≤ 102
        · have e1 : hv c = c - 97 + 10 := by unfold hv; rw [if_neg (by omega), if_pos ⟨a3, a4⟩]; omega
          have e2 : hvOk c = true := by simp [hvOk, a3, a4]
          rw [e1, e2]
          clear e1 e2
          go_enter Tryd.func35, Tryd.ntmps35
          go_wp2
          go_ret2
          exact ⟨rfl, rfl⟩
        · have e1 : hv c = 0 := by unfold hv; rw [if_neg (by omega), if_neg (by omega)]
          have e2 : hvOk c = false := by simp [hvOk, a2, a4]
          rw [e1, e2]
          clear e1 e2
          go_enter Tryd.func35, Tryd.ntmps35
          go_wp2
          go_ret2
          exact ⟨rfl, rfl⟩
      · have e1 : hv c = 0 := by unfold hv; rw [if_neg (by omega), if_neg (by omega)]
        have e2 : hvOk c = false := by simp [hvOk, a2, a3]
        rw [e1, e2]
        clear e1 e2
        go_enter Tryd.func35, Tryd.ntmps35
        go_wp2
        go_ret2
        exact ⟨rfl, rfl⟩
  · have e1 : hv c = 0 := by unfold hv; rw [if_neg (by omega), if_neg (by omega)]
    have e2 : hvOk c = false := by simp [hvOk, a1]; omega
    rw [e1, e2]
    clear e1 e2
    go_enter Tryd.func35, Tryd.ntmps35
    go_wp2
    go_ret2
    exact ⟨rfl, rfl⟩

theorem digits_at (d : Int) (h0 : 0 ≤ d) (h1 : d < 16) (w : World) :
    (Instr.index 9 (Value.string { data := #[48, 49, 50, 51, 52, 53, 54, 55, 56, 57, 97, 98, 99, 100, 101, 102] }) (.int .u8 d)).run Tryd.prog w = .ok (.int .u8 (dgI d)) w := by
  have h : d = 0 ∨ d = 1 ∨ d = 2 ∨ d = 3 ∨ d = 4 ∨ d = 5 ∨ d = 6 ∨ d = 7 ∨ d = 8 ∨ d = 9 ∨ d = 10 ∨ d = 11 ∨ d = 12 ∨ d = 13 ∨ d = 14 ∨ d = 15 := by omega
  rcases h with rfl | rfl | rfl | rfl | rfl | rfl | rfl | rfl | rfl | rfl | rfl | rfl | rfl | rfl | rfl | rfl <;> (show Sem.run _ _ _ = _; kernel_rfl)

set_option maxHeartbeats 1600000 in
theorem Hex_any (p : Option Addr) (len cap : Nat) (xs : List Int) (w : World) (hl : len ≤ 1000000)
    (hx : xs.length = len) (hb : Lib.BytesIn w p len xs) (hr : ∀ x ∈ xs, 0 ≤ x ∧ x < 256) :
    Calls Tryd.prog 25 #[.slice p len cap] w fun e w' => e = .returned (.string (strI (hexI xs))) ∧ Below w.heap.size w w' := by
  have HX := Lib.hid hx
  have HB := Lib.hid hb
  have HR := Lib.hid hr
  clear hx hb hr
  obtain ⟨i0, hi, hz0, hz1, hz2⟩ := info_parts Tryd.infoB
  go_enter Tryd.func25, Tryd.ntmps25
  go_wp2_with (at_make; refine wpList_make_own _ rfl _ _ 35 rfl w.heap.size 5 i0 (.int .u8 0) 1 Tryd.underlying35 hi hz0 hz1 _ _ _ (2 * len) rfl rfl (by omega) ?b2 ?b3 (Nat.le_refl _) ?_)
  case b2 => rw [hz2]; omega
  case b3 => unfold maxLen; omega
  intro w0 hown0 hgrow0
  have HBel0 := Lib.hid ((Below.refl w.heap.size w).grown hgrow0 (Nat.le_refl _) (fun k h => by cases h))
  clear hgrow0
  go_wp2
  go_loopw [3, 12] (fun v i wr => ∃ k : Nat, k ≤ len ∧ i = .int .i64 k ∧ wr.ownsRow w.heap.size 5 1 v (2 * k) ((hexI (xs.take k)).map (Value.int .u8)) ∧ Hid (Below w.heap.size w wr))
    (fun _ i _ => len - (intOf i).toNat)
  case atStart => exact ⟨0, Nat.zero_le _, rfl, ⟨by simp [hexI], by
    have := hown0.2; simpa [hexI] using this⟩, HBel0⟩
  case round =>
    obtain ⟨k, hk, rfl, hown, HBel⟩ := hrel
    by_cases hlt : k < len
    · obtain ⟨b, o, hp', hc⟩ := HB.out (by omega)
      have hcell := hc k hlt
      obtain ⟨x, hx⟩ : ∃ x, x = xs.getD k 0 := ⟨_, rfl⟩
      rw [← hx] at hcell
      have hxr : 0 ≤ x ∧ x < 256 := by
        rw [hx]
        have : k < xs.length := by rw [HX.out]; omega
        simp only [List.getD_eq_getElem?_getD, List.getElem?_eq_getElem this, Option.getD_some]
        exact HR.out _ (List.getElem_mem _)
      have HXk := Lib.hid hx
      clear hx hc
      subst hp'
      have hcell' : wr.cell? ⟨b, o + k, none⟩ = some (.int .u8 x) := (HBel.out.cell (World.block_lt_of_cell? w _ hcell)).trans hcell
      clear hcell
      obtain ⟨hx0, hx1⟩ := hxr
      go_wp2
      have ix1 : ∀ w, (Instr.index 9 (Value.string { data := #[48, 49, 50, 51, 52, 53, 54, 55, 56, 57, 97, 98, 99, 100, 101, 102] }) (.int .u8 (x / 16))).run Tryd.prog w = .ok (.int .u8 (dgI (x / 16))) w := fun w => digits_at _ (by omega) (by omega) w
      have ix2 : ∀ w, (Instr.index 9 (Value.string { data := #[48, 49, 50, 51, 52, 53, 54, 55, 56, 57, 97, 98, 99, 100, 101, 102] }) (.int .u8 (bits .and .u8 x 15))).run Tryd.prog w = .ok (.int .u8 (dgI (x % 16))) w := fun w => by
        have e : bits .and .u8 x 15 = x % 16 := by
          obtain ⟨n, rfl⟩ := Int.eq_ofNat_of_zero_le hx0
          have := u8_and_nat n 15 (by omega) (by omega)
          rw [show ((15 : Int)) = ((15 : Nat) : Int) from rfl, this, nat_mask4]; rfl
        rw [e]; exact digits_at _ (by omega) (by omega) w
      have hkb : (hexI (xs.take k)).length = 2 * k := by rw [hexI_length, List.length_take]; have := HX.out; omega
      go_region_law ((refine step_append_lies _ (by rfl) _ _ _ (by rfl) w.heap.size 5 i0 _ 1 1 Tryd.underlying35 hi hz0 hz1 hz2 rfl (by omega) u3 (2 * k) _ (by rfl) ((hown.alloc _).drew) ⟨wr.heap.size, 0, none⟩ 2 2 [.int .u8 (dgI (x / 16)), .int .u8 (dgI (x % 16))] (by rfl) (by rfl) (World.news_of_block (cs := #[.int .u8 (dgI (x / 16)), .int .u8 (dgI (x % 16))]) (t := 5) (fr := (0, 0)) (heap_alloc_new wr _)) (by simp [Value.oneCell']) (by omega) (by unfold maxLen; omega) (by omega) (by have := HBel.out.size; simp; omega) (wr.heap.size + 1) (by simp) ?_; intro gg capn w1 hown1 hgrow hat hlt2))
      all_goals
        have e : (hexI (xs.take (k + 1))).map (Value.int .u8) = (hexI (xs.take k)).map (Value.int .u8) ++ [Value.int .u8 (dgI (x / 16)), Value.int .u8 (dgI (x % 16))] := by
          rw [HXk.out]; exact hexI_step xs k (by rw [HX.out]; exact hlt)
        have HE := Lib.hid e
        have HO := Lib.hid hown1
        have hrow : ∀ r, u3.ownBlock = some r → w.heap.size ≤ r := fun r hr => (hown.lt r hr).1
        have HBel2 := Lib.hid (((HBel.out.alloc HBel.out.size (.cells #[.int .u8 (dgI (x / 16)), .int .u8 (dgI (x % 16))] 5)).drew).grown hgrow (by have := HBel.out.size; simp; omega) hrow)
        clear e hown1 hgrow hat hlt2 hrow hown ix1 ix2 hcell'
        go_wp2
        go_roundw
        case rel => exact ⟨k + 1, by omega, by go_num, by rw [HE.out]; exact HO.out, HBel2⟩
        case measure => simp [intOf]; omega
    · have hkl : k = len := by omega
      subst hkl
      have hxk : xs.take k = xs := List.take_of_length_le (by rw [HX.out]; exact Nat.le_refl _)
      rw [hxk] at hown
      clear hxk
      obtain ⟨p2, n2, c2, rfl, e1, e2, e3, e4⟩ := row_owns hown
      have hcv := Lib.BytesIn.convert (P := Tryd.prog) e3 e1 c2 35 5 9 Tryd.underlying35 Tryd.underlying5 Tryd.underlying9
      clear e1 e2 e3 e4 hown
      go_wp2
      go_ret
      exact ⟨rfl, HBel.out⟩
end Go.Proofs.YtjadlianlnaomaaDoor
