/- The document's own Hex (drumlinref01). -/
import Derived.Test.YtcafenmkcjlhgaaDoorRef3
import Derived.Test.YtcafenmkcjlhgaaDoorApi2
import Derived.Deep.QuietTactic
import Derived.BigQuiet
namespace Go.Proofs.YtcafenmkcjlhgaaDoor
open Go Go.RowKit

theorem digit_q (d : Int) (w : World) (h0 : 0 ≤ d) (h1 : d < 16) :
    Calls Tryd.prog 30 #[.int .i64 d] w fun e w' => e = .returned (.string (digS d)) ∧ w' = w :=
  (digit_any d w h0 h1).mono fun _ _ ⟨he, hw⟩ => ⟨he, hw.symm⟩

theorem hex_str (xs : List Int) (k : Nat) (h : k < xs.length) : strI (hexI (xs.take k)) ++ digS (xs.getD k 0 / 16) ++ digS (xs.getD k 0 % 16) = strI (hexI (xs.take (k + 1))) := by
  have e : xs.take (k + 1) = xs.take k ++ [xs.getD k 0] := by
    rw [List.take_succ_eq_append_getElem h]; simp [List.getD, h]
  rw [e, hexI_snoc]
  apply ByteArray.ext
  simp [strI, digS, Lib.bytesOf, ByteArray.data_append]

set_option maxHeartbeats 1600000 in
theorem rHex_any (p : Option Addr) (len cap : Nat) (xs : List Int) (w : World) (hl : len ≤ 1000000) (hS : Sl w p len cap xs) :
    Calls Tryd.prog 20 #[.slice p len cap] w fun e w' => e = .returned (.string (strI (hexI xs))) ∧ Below w.heap.size w w' := by
  have HS := Lib.hid hS
  have hlc := hS.cap
  clear hS
  go_enter Tryd.func20, Tryd.ntmps20
  go_wp2
  go_loopw [3, 4] (fun v i wr => ∃ (k : Nat), k ≤ len ∧ i = .int .i64 k ∧ v = .string (strI (hexI (xs.take k))) ∧ Hid (Below w.heap.size w wr)) (fun _ i _ => len - (intOf i).toNat)
  case atStart => exact ⟨0, Nat.zero_le _, rfl, rfl, Below.refl _ _⟩
  case round =>
    obtain ⟨k, hk, rfl, rfl, HQ⟩ := hrel
    by_cases hlt : k < len
    · obtain ⟨b, o, hp', hc⟩ := HS.out.bytes (by omega)
      have hkx : k < xs.length := by rw [HS.out.len]; exact hlt
      have hcell := hc k hlt
      have hst := hex_str xs k hkx
      have hsz : (strI (hexI (xs.take k))).size ≤ 2000000 := by
        rw [strI_size, hexI_length, List.length_take]; omega
      have hxr : 0 ≤ xs.getD k 0 ∧ xs.getD k 0 < 256 := by
        simp only [List.getD_eq_getElem?_getD, List.getElem?_eq_getElem hkx, Option.getD_some]
        exact HS.out.rng _ (List.getElem_mem _)
      generalize xs.getD k 0 = x at *
      generalize strI (hexI (xs.take k)) = t at *
      have HSt := Lib.hid hst
      subst hp'
      obtain ⟨hx0, hx1⟩ := hxr
      have hd1 : (digS (x / 16)).size ≤ 1 := Nat.le_refl 1
      have hd2 : (digS (x % 16)).size ≤ 1 := Nat.le_refl 1
      have hcell' : wr.cell? ⟨b, o + k, none⟩ = some (.int .u8 x) := (HQ.out.cell (World.block_lt_of_cell? w _ hcell)).trans hcell
      clear hst hc hkx hcell
      have hki0 : (0 : Int) ≤ (k : Int) := by omega
      have hki1 : (k : Int) < (len : Int) := by omega
      go_wp2
      go_quiet ((go_at_call 30; exact Calls.quiet_of_same (digit_q _ _ (by omega) (by omega))))
      go_wp2
      go_roundw
      case rel =>
        exact ⟨k + 1, by omega, by go_num, by rw [← HSt.out], HQ.out.trans (below_drewN (Below.refl _ _) _)⟩
      case measure => simp [intOf]; omega
    · have hkl : k = len := by omega
      have htk : xs.take k = xs := List.take_of_length_le (by rw [HS.out.len]; omega)
      rw [htk]
      go_wp2
      go_ret
      exact ⟨rfl, HQ.out⟩
end Go.Proofs.YtcafenmkcjlhgaaDoor
