/- codec.Append -/
import Derived.Test.YtcafenmkcjlhgaaDoorFits
namespace Go.Proofs.YtcafenmkcjlhgaaDoor
open Go Go.RowKit

theorem Tryd.info5u : (Tryd.prog.info? 5).map (fun i => (i.zero, i.size, i.bytes)) = some (some (.int .u8 0), 1, 1) := by kernel_rfl

set_option maxHeartbeats 1600000 in
theorem Append_ok (p : Option Addr) (len cap : Nat) (xs : List Int) (n : Int) (m : Nat) (w : World) (h : WTab w) (hw : isW m = true) (hf : fitsI n m = true) (hl : len ≤ 1000000)
    (hx : xs.length = len) (hb : Lib.BytesIn w p len xs) (hp : p = none → len = 0 ∧ cap = 0) :
    Calls Tryd.prog 10 #[.slice p len cap, .int .u64 n, .int .i64 m] w fun e w' =>
      e = .returned (.tuple #[.slice (some ⟨w.heap.size, 0, none⟩) (len + m) (len + m), .int .i64 0]) ∧ w'.ownsRow w.heap.size 5 1 (.slice (some ⟨w.heap.size, 0, none⟩) (len + m) (len + m)) (len + m) ((xs ++ le n m).map (Value.int .u8)) ∧ Below w.heap.size w w' := by
  have hm8 : m ≤ 8 := by rcases isW_cases hw with h | h | h | h <;> omega
  have HT := Lib.hid h
  have HW := Lib.hid hw
  have HF := Lib.hid hf
  have HX := Lib.hid hx
  have HB := Lib.hid hb
  have HP := Lib.hid hp
  clear h hw hf hx hb hp
  obtain ⟨i0, hi, hz0, hz1, hz2⟩ := info_parts Tryd.info5u
  go_enter Tryd.func10, Tryd.ntmps10
  go_wp2_with (first
     | (go_at_call 27; refine (isWidth_any m _ HT.out).mono ?_; rw [HW.out]; rintro e w' ⟨rfl, rfl⟩)
     | (go_at_call 15; refine (Fits_any n m _ HT.out).mono ?_; rw [HF.out]; rintro e w' ⟨rfl, rfl⟩)
     | (at_make; refine wpList_make_own _ rfl _ _ 22 rfl w.heap.size 5 i0 (.int .u8 0) 1 Tryd.underlying22 hi hz0 hz1 _ _ _ (len + m) rfl rfl (by omega) ?b2 ?b3 (Nat.le_refl _) ?_))
  case b2 => rw [hz2]; omega
  case b3 => unfold maxLen; omega
  intro w0 hown0 hgrow0
  have hbel0 : Below w.heap.size w w0 := (Below.refl _ _).grown hgrow0 (Nat.le_refl _) (fun k h => by cases h)
  have HC := Lib.hid (cells_of_in HX.out (bytesIn_below HB.out hbel0))
  have HBel0 := Lib.hid hbel0
  clear hbel0 hgrow0
  go_wp2_with (at_builtin; refine wpList_append_fits_any _ rfl _ _ 22 rfl w.heap.size 5 i0 1 Tryd.underlying22 hi hz1 w.heap.size 0 (len + m) _ rfl hown0 p len cap (xs.map (Value.int .u8)) rfl ?c1 ?c2 ?c3 ?c4 ?c5 ?_)
  case c1 => rw [List.length_map, HX.out]; omega
  case c2 => exact HP.out
  case c3 => exact HC.out
  case c4 => exact ints_oneCell _ _
  case c5 => omega
  intro w1 hown1 hgrow1
  have HBel1 := Lib.hid (HBel0.out.grown hgrow1 HBel0.out.size (fun k hk => by cases hk; exact Nat.le_refl _))
  clear hgrow1 hown0
  go_wp2
  go_loopw [8, 26] (fun v i wr => ∃ k : Nat, k ≤ m ∧ i = .int .i64 k ∧ v = .slice (some ⟨w.heap.size, 0, none⟩) (len + k) (len + m) ∧
      wr.ownsRow w.heap.size 5 1 (.slice (some ⟨w.heap.size, 0, none⟩) (len + k) (len + m)) (len + k) ((xs ++ le n k).map (Value.int .u8)) ∧ Hid (Below w.heap.size w wr))
    (fun _ i _ => m - (intOf i).toNat)
  case atStart => exact ⟨0, Nat.zero_le _, rfl, rfl, by simpa [le] using hown1, HBel1⟩
  case round =>
    obtain ⟨k, hk, rfl, rfl, hown, HBel⟩ := hrel
    have hby : ∀ j u, [Value.int .u8 (n / 2 ^ (8 * k) % 256)][j]? = some u → (wr.alloc (.cells #[.int .u8 (n / 2 ^ (8 * k) % 256)] 5)).cell? ((⟨wr.heap.size, 0, none⟩ : Addr).add j) = some u := by
      intro j u hj
      match j, hj with
      | 0, hj => simp at hj; subst hj; simp [Addr.add]
    have HBY := Lib.hid hby
    clear hby
    by_cases hlt : k < m
    · go_wp2_with (at_builtin; refine wpList_append_fits _ rfl _ _ 22 rfl w.heap.size 5 i0 1 Tryd.underlying22 hi hz1 w.heap.size (len + k) (len + m) _ rfl (hown.alloc _) ⟨wr.heap.size, 0, none⟩ 1 1 [.int .u8 (n / 2 ^ (8 * k) % 256)] rfl rfl HBY.out (by intro u hu; simp at hu; subst hu; rfl) (by omega) ?_; intro w2 hown2 hgrow2)
      have HBel2 : Below w.heap.size w w2 := (HBel.out.alloc HBel.out.size _).grown hgrow2 (by have := HBel.out.size; simp; omega) (fun k hk => by cases hk; exact Nat.le_refl _)
      have e : (xs ++ le n (k + 1)).map (Value.int .u8) = (xs ++ le n k).map (Value.int .u8) ++ [Value.int .u8 (n / 2 ^ (8 * k) % 256)] := by
        rw [le_succ]; simp
      go_roundw
      case rel => exact ⟨k + 1, by omega, by go_num, rfl, by rw [e]; exact hown2, HBel2⟩
      case measure => simp [intOf]; omega
    · have hkm : k = m := by omega
      subst hkm
      go_wp2
      go_ret2
      exact ⟨rfl, hown, HBel.out⟩

theorem Append_arg (v : Value) (n m : Int) (w : World) (h : WTab w) (hw : isW m = false) :
    Calls Tryd.prog 10 #[v, .int .u64 n, .int .i64 m] w fun e w' => e = .returned (.tuple #[.slice none 0 0, .int .i64 2]) ∧ w = w' := by
  have HT := Lib.hid h
  have HW := Lib.hid hw
  clear h hw
  go_enter Tryd.func10, Tryd.ntmps10
  go_wp2_with (go_at_call 27; refine (isWidth_any m _ HT.out).mono ?_; rw [HW.out]; rintro e w' ⟨rfl, rfl⟩)
  go_ret2
  exact ⟨rfl, rfl⟩

theorem Append_over (v : Value) (n m : Int) (w : World) (h : WTab w) (hw : isW m = true) (hf : fitsI n m = false) :
    Calls Tryd.prog 10 #[v, .int .u64 n, .int .i64 m] w fun e w' => e = .returned (.tuple #[.slice none 0 0, .int .i64 16]) ∧ w = w' := by
  have HT := Lib.hid h
  have HW := Lib.hid hw
  have HF := Lib.hid hf
  clear h hw hf
  go_enter Tryd.func10, Tryd.ntmps10
  go_wp2_with (first
     | (go_at_call 27; refine (isWidth_any m _ HT.out).mono ?_; rw [HW.out]; rintro e w' ⟨rfl, rfl⟩)
     | (go_at_call 15; refine (Fits_any n m _ HT.out).mono ?_; rw [HF.out]; rintro e w' ⟨rfl, rfl⟩))
  go_ret2
  exact ⟨rfl, rfl⟩
end Go.Proofs.YtcafenmkcjlhgaaDoor
