/- The document's own functions on values (drumlinref06): digits, Short. -/
import Derived.Test.YtjadlianlnaomaaDoorValRef3
namespace Go.Proofs.YtjadlianlnaomaaDoor
open Go Go.RowKit

/-- Decimal digits. -/
def decS (n : Nat) : ByteArray := ⟨(Lib.decDigits n).toArray⟩

theorem dec_small (d : Nat) (h : d < 10) : Lib.decDigits d = [UInt8.ofNat (48 + d)] := by rw [Lib.decDigits, dif_pos h]

theorem decS_small (d : Nat) (h : d < 10) : decS d = ⟨#[UInt8.ofNat (48 + d)]⟩ := by unfold decS; rw [dec_small d h]

theorem decS_step (n : Nat) (h : 10 ≤ n) : decS (n / 10) ++ decS (n % 10) = decS n := by
  apply ByteArray.ext
  rw [ByteArray.data_append, decS_small (n % 10) (by omega)]
  show (decS (n / 10)).data ++ _ = (Lib.decDigits n).toArray
  rw [Lib.decDigits, dif_neg (by omega)]
  unfold decS
  simp

theorem decS_size (k : Nat) : ∀ n, n < 10 ^ (k + 1) → (decS n).size ≤ k + 1 := by
  induction k with
  | zero => intro n h; rw [decS_small n (by omega)]; exact Nat.le_refl 1
  | succ k ih =>
    intro n h
    by_cases h1 : n < 10
    · rw [decS_small n h1]; exact Nat.le_add_left 1 (k + 1)
    · rw [← decS_step n (by omega), ByteArray.size_append]
      have h2 := ih (n / 10) (by rw [Nat.pow_succ] at h; omega)
      have h3 : (decS (n % 10)).size = 1 := by rw [decS_small _ (by omega)]; rfl
      omega

theorem rvdigits_any (n : Nat) : ∀ w, n < 1000000 → Calls Tryd.prog 33 #[.int .i64 n] w fun e w' => e = .returned (.string (decS n)) ∧ w' = w := by
  induction n using Nat.strongRecOn with
  | _ n ih =>
    intro w hn
    by_cases h : n < 10
    · clear ih
      have : n = 0 ∨ n = 1 ∨ n = 2 ∨ n = 3 ∨ n = 4 ∨ n = 5 ∨ n = 6 ∨ n = 7 ∨ n = 8 ∨ n = 9 := by omega
      rcases this with rfl | rfl | rfl | rfl | rfl | rfl | rfl | rfl | rfl | rfl
      all_goals
        clear h hn
        go_enter Tryd.func33, Tryd.ntmps33
        go_wp2_with fail
        go_ret
        refine ⟨?_, rfl⟩
        rw [decS_small _ (by decide)]
        rfl
    · obtain ⟨q, hq⟩ : ∃ q, q = n / 10 := ⟨_, rfl⟩
      obtain ⟨d, hd⟩ : ∃ d, d = n % 10 := ⟨_, rfl⟩
      have HQ := Lib.hid (ih q (by omega) w (by omega))
      have HD := Lib.hid (ih d (by omega) w (by omega))
      have hst := decS_step n (by omega)
      rw [← hq, ← hd] at hst
      have hs1 := decS_size 5 q (by omega)
      have hs2 := decS_size 5 d (by omega)
      have hqi : (n : Int) / 10 = (q : Int) := by omega
      have hdi : (n : Int) % 10 = (d : Int) := by omega
      have hge : ¬ (n : Int) < 10 := by omega
      generalize decS q = sq at *
      generalize decS d = sd at *
      clear ih hq hd
      have HSt := Lib.hid hst
      clear hst
      go_enter Tryd.func33, Tryd.ntmps33
      go_wp2_with fail
      refine HQ.out.mono ?_
      rintro e w' ⟨rfl, rfl⟩
      go_wp2_with fail
      refine HD.out.mono ?_
      rintro e w' ⟨rfl, rfl⟩
      go_wp2_with fail
      go_ret
      exact ⟨congrArg (fun r => Ending.returned (Value.string r)) HSt.out, rfl⟩

theorem below_then2 {a b c : World} (h : Below a.heap.size a b) (k : Below b.heap.size b c) : Below a.heap.size a c := h.trans (k.mono h.size)

/-- What Short returns. -/
def vShort (s : ByteArray) : ByteArray :=
  if 8 < s.size then decS s.size ++ ⟨#[58]⟩ ++ strI (hexI ((numS s).take 8)) ++ ⟨#[46, 46]⟩ else decS s.size ++ ⟨#[58]⟩ ++ strI (hexI (numS s))

set_option maxHeartbeats 1600000 in
set_option maxRecDepth 100000 in
theorem rvShort_any (s : ByteArray) (w : World) (hl : s.size < 1000000) :
    Calls Tryd.prog 23 #[.string s] w fun e w' => e = .returned (.string (vShort s)) ∧ Below w.heap.size w w' := by
  obtain ⟨r, hr⟩ : ∃ r, r = vShort s := ⟨_, rfl⟩
  rw [← hr]
  unfold vShort at hr
  have HDg : Hid (∀ w, Calls Tryd.prog 33 #[.int .i64 s.size] w fun e w' => e = .returned (.string (decS s.size)) ∧ w' = w) := fun w => rvdigits_any s.size w hl
  have hs1 := decS_size 5 s.size hl
  by_cases h8 : 8 < s.size
  · rw [if_pos h8] at hr
    have h8e : (numS (s.extract 0 8)) = (numS s).take 8 := by rw [numS_extract, List.drop_zero]
    have HHx : Hid (∀ w, Calls Tryd.prog 27 #[.string (s.extract 0 8)] w fun e w' => e = .returned (.string (strI (hexI ((numS s).take 8)))) ∧ Below w.heap.size w w') := by
      intro w
      have h9 : (s.extract 0 8).size ≤ 1000000 := by rw [ByteArray.size_extract]; omega
      have := rvhex_any (s.extract 0 8) w h9
      rwa [h8e] at this
    have hs2 : (strI (hexI ((numS s).take 8))).size ≤ 16 := by rw [strI_size, hexI_length, List.length_take]; omega
    generalize strI (hexI ((numS s).take 8)) = hx at *
    generalize decS s.size = ds at *
    have HRes := Lib.hid hr
    clear hr h8e
    go_enter Tryd.func23, Tryd.ntmps23
    go_wp2_with fail
    have HBd : Hid (Below w.heap.size w w.drew) := (Below.refl _ _).drew
    go_region_with (first
      | (go_at_call 33; refine (HDg.out _).mono ?_; rintro e w' ⟨rfl, rfl⟩)
      | (go_at_call 27; refine (HHx.out _).mono ?_; rintro e w' ⟨rfl, hb5⟩))
    all_goals
      go_wp2_with fail
      go_ret
      exact ⟨congrArg (fun r => Ending.returned (Value.string r)) HRes.out.symm, below_then2 HBd.out hb5⟩
  · rw [if_neg h8] at hr
    have HHx := Lib.hid (rvhex_any s w (by omega))
    have hs2 : (strI (hexI (numS s))).size ≤ 16 := by rw [strI_size, hexI_length, numS_length]; omega
    generalize strI (hexI (numS s)) = hx at *
    generalize decS s.size = ds at *
    have HRes := Lib.hid hr
    clear hr
    go_enter Tryd.func23, Tryd.ntmps23
    go_wp2_with fail
    refine (HDg.out _).mono ?_
    rintro e w' ⟨rfl, rfl⟩
    go_wp2_with fail
    refine HHx.out.mono ?_
    rintro e w1 ⟨rfl, hb⟩
    go_wp2_with fail
    go_ret
    exact ⟨congrArg (fun r => Ending.returned (Value.string r)) HRes.out.symm, hb⟩
end Go.Proofs.YtjadlianlnaomaaDoor
