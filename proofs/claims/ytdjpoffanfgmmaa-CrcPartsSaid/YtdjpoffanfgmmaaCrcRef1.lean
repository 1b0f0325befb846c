/- The document's own step, Feed, Update and Sum (drumlinref02). -/
import Derived.Test.YtdjpoffanfgmmaaCrcBits
import Derived.LoopTactic
namespace Go.Proofs.Ytdjpoffanfgmmaa
open Go Go.RowKit

theorem rstep_any (x : BitVec 32) (w : World) :
    Calls Try.prog 27 #[.int .u32 (x.toNat : Int)] w fun e w' => e = .returned (.int .u32 ((cst x).toNat : Int)) ∧ w = w' := by
  have h1 := and1_u32 x
  have h2 := shr1_u32 x
  have hlt := x.isLt
  have hp : (crcP.toNat : Int) = 3988292384 := by decide
  have h3 := xor_u32 (x >>> 1) crcP
  rw [hp, ← h2] at h3
  cases hb : x.getLsbD 0 with
  | true =>
    have hc := cst_odd x hb
    rw [← hc] at h3
    rw [hb, if_pos rfl] at h1
    generalize (cst x).toNat = c at *
    generalize x.toNat = u at *
    clear hb hp h2 hc
    go_enter Try.func27, Try.ntmps27
    go_wp2
    go_ret
    exact ⟨congrArg (fun n => Ending.returned (Value.int .u32 n)) h3, rfl⟩
  | false =>
    have hc := cst_even x hb
    rw [← hc] at h2
    rw [hb, if_neg (by decide)] at h1
    clear h3 hc hb hp
    generalize (cst x).toNat = c at *
    generalize x.toNat = u at *
    go_enter Try.func27, Try.ntmps27
    go_wp2
    go_ret
    exact ⟨congrArg (fun n => Ending.returned (Value.int .u32 n)) h2, rfl⟩

theorem rFeed_any (x : BitVec 32) (b : Int) (w : World) (h0 : 0 ≤ b) (h1 : b < 256) :
    Calls Try.prog 22 #[.int .u32 (x.toNat : Int), .int .u8 b] w fun e w' => e = .returned (.int .u32 ((feed x b).toNat : Int)) ∧ w = w' := by
  have hx := xor_byte x b h0 h1
  have HF := Lib.hid (show feed x b = csts 8 (x ^^^ cbv b) from rfl)
  generalize x ^^^ cbv b = y at *
  go_enter Try.func22, Try.ntmps22
  go_wp2
  go_loop [0, 5] (fun v i => ∃ k : Nat, k ≤ 8 ∧ i = .int .i64 k ∧ v = .int .u32 ((csts k y).toNat : Int)) (fun _ i => 8 - (intOf i).toNat)
  case atStart => exact ⟨0, by omega, rfl, rfl⟩
  case round =>
    obtain ⟨k, hk, rfl, rfl⟩ := hrel
    by_cases hlt : k < 8
    · have hst := rstep_any (csts k y)
      have HSt := Lib.hid hst
      clear hst
      go_wp2_with (go_at_call 27; refine (HSt.out _).mono ?_; rintro e w' ⟨rfl, rfl⟩)
      go_round
      case rel => exact ⟨k + 1, by omega, by go_num, rfl⟩
      case measure => simp [intOf]; omega
    · have hk8 : k = 8 := by omega
      subst hk8
      rw [← HF.out]
      go_wp2
      go_ret
      exact ⟨rfl, rfl⟩

/-- The document's Update. -/
theorem rUpdate_any (s : BitVec 32) (p : Option Addr) (len cap : Nat) (xs : List Int) (w : World) (hl : len ≤ maxLen) (hS : Sl w p len cap xs) :
    Calls Try.prog 18 #[.int .u32 (s.toNat : Int), .slice p len cap] w fun e w' => e = .returned (.int .u32 ((crcU s xs).toNat : Int)) ∧ w = w' := by
  have HS := Lib.hid hS
  have hlc := hS.cap
  unfold maxLen at hl
  have hF : (crcF.toNat : Int) = 4294967295 := by decide
  have hx := xor_u32 s crcF
  have hy := xor_u32 (feeds (s ^^^ crcF) xs) crcF
  rw [hF] at hx hy
  have HU := Lib.hid (show crcU s xs = feeds (s ^^^ crcF) xs ^^^ crcF from rfl)
  rw [← HU.out] at hy
  have HY := Lib.hid hy
  generalize s ^^^ crcF = y at *
  clear hS hF hy
  go_enter Try.func18, Try.ntmps18
  go_wp2
  go_loop [5, 6] (fun v i => ∃ k : Nat, k ≤ len ∧ i = .int .i64 k ∧ v = .int .u32 ((feeds y (xs.take k)).toNat : Int)) (fun _ i => len - (intOf i).toNat)
  case atStart => exact ⟨0, by omega, rfl, rfl⟩
  case round =>
    obtain ⟨k, hk, rfl, rfl⟩ := hrel
    by_cases hlt : k < len
    · obtain ⟨b, o, rfl, hc⟩ := HS.out.bytes (by omega)
      have hcell := hc k hlt
      have hkx : k < xs.length := by rw [HS.out.len]; exact hlt
      have hr : 0 ≤ xs.getD k 0 ∧ xs.getD k 0 < 256 := by
        simp only [List.getD_eq_getElem?_getD, List.getElem?_eq_getElem hkx, Option.getD_some]
        exact HS.out.rng _ (List.getElem_mem _)
      have hst : feed (feeds y (xs.take k)) (xs.getD k 0) = feeds y (xs.take (k + 1)) := by
        rw [← feeds_snoc, List.take_succ_eq_append_getElem hkx]; simp [List.getD, hkx]
      have HSt := Lib.hid hst
      generalize xs.getD k 0 = z at *
      obtain ⟨hr0, hr1⟩ := hr
      clear hst hc hkx
      go_wp2_with (go_at_call 22; refine (rFeed_any _ _ _ (by omega) (by omega)).mono ?_; rintro e w' ⟨rfl, rfl⟩)
      go_round
      case rel => exact ⟨k + 1, by omega, by go_num, by rw [← HSt.out]⟩
      case measure => simp [intOf]; omega
    · have hkl : k = len := by omega
      subst hkl
      have htk : xs.take k = xs := List.take_of_length_le (by rw [HS.out.len]; omega)
      rw [htk]
      have hy := HY.out
      go_wp2
      go_ret
      exact ⟨rfl, rfl⟩

theorem rSum_any (p : Option Addr) (len cap : Nat) (xs : List Int) (w : World) (hl : len ≤ maxLen) (hS : Sl w p len cap xs) :
    Calls Try.prog 14 #[.slice p len cap] w fun e w' => e = .returned (.int .u32 ((crcU 0#32 xs).toNat : Int)) ∧ w = w' := by
  have HU := Lib.hid (rUpdate_any 0#32 p len cap xs w hl hS)
  go_enter Try.func14, Try.ntmps14
  go_wp2_with (go_at_call 18; refine HU.out.mono ?_; rintro e w' ⟨rfl, rfl⟩)
  go_ret
  exact ⟨rfl, rfl⟩
end Go.Proofs.Ytdjpoffanfgmmaa
