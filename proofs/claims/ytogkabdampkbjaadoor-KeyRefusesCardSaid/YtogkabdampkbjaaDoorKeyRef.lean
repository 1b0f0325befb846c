/- The document's own functions on keys (drumlinref05): letters, place, Check, Fits, Common, Order. -/
import Derived.Test.YtogkabdampkbjaaDoorKeyMath3
import Derived.LoopTactic
import Derived.OwnWalk
import Derived.Deep.QuietTactic
import Derived.BigQuiet
namespace Go.Proofs.YtogkabdampkbjaaDoor
open Go Go.RowKit

/-- The key characters as a string. -/
def keyS : ByteArray := ⟨#[45, 46, 48, 49, 50, 51, 52, 53, 54, 55, 56, 57, 95, 97, 98, 99, 100, 101, 102, 103, 104, 105, 106, 107, 108, 109, 110, 111, 112, 113, 114, 115, 116, 117, 118, 119, 120, 121, 122]⟩

theorem numS_keyS : numS keyS = keyL := by decide +kernel
theorem keyS_size : keyS.size = 39 := by decide

theorem isEmpty_t (s : ByteArray) : s.toList.isEmpty = decide (s.size = 0) := by
  rw [Go.ByteArray.toList_eq, ← numS_length]
  unfold numS
  cases s.data.toList with
  | nil => rfl
  | cons _ _ => simp

theorem rletters_any (w : World) : Calls Tryd.prog 32 #[] w fun e w' => e = .returned (.string keyS) ∧ w' = w := by
  go_enter Tryd.func32, Tryd.ntmps32
  go_wp2_with fail
  go_ret
  exact ⟨rfl, rfl⟩

theorem rplace_any (c : Int) (w : World) :
    Calls Tryd.prog 29 #[.int .u8 c] w fun e w' => e = .returned (.int .i64 (kpl c)) ∧ w' = w := by
  have HLt := Lib.hid rletters_any
  have hks := keyS_size
  have HIx : Hid (∀ i : Nat, i < 39 → ∀ w, (Instr.index 9 (.string keyS) (.int .i64 i)).run Tryd.prog w = .ok (.int .u8 (keyL.getD i 0)) w) := fun i hi w => by
    rw [index_s keyS i (by rw [keyS_size]; exact hi) w, numS_keyS]
  generalize keyS = ks at *
  go_enter Tryd.func29, Tryd.ntmps29
  go_wp2_with fail
  go_loop [3] (fun i => ∃ k : Nat, k ≤ 39 ∧ i = .int .i64 k ∧ Hid (kpl c = -1 ∨ (k : Int) ≤ kpl c)) (fun i => 39 - (intOf i).toNat)
  case atStart =>
    refine ⟨0, by omega, rfl, ?_⟩
    show kpl c = -1 ∨ ((0 : Nat) : Int) ≤ kpl c
    unfold kpl
    (repeat' split) <;> omega
  case round =>
    obtain ⟨k, hk, rfl, HK⟩ := hrel
    by_cases hlt : k < 39
    · have ixk := HIx.out k hlt
      have hkk := kpl_keyL ⟨k, hlt⟩
      simp only at hkk
      generalize keyL.getD k 0 = x at *
      have hki : (k : Int) < 39 := by omega
      by_cases hx : x = c
      · subst hx
        have HKK := Lib.hid hkk
        clear HK hkk
        go_wp2_with (go_at_call 32; refine (HLt.out _).mono ?_; rintro e w' ⟨rfl, rfl⟩)
        go_ret
        exact ⟨congrArg (fun n => Ending.returned (Value.int .i64 n)) HKK.out.symm, rfl⟩
      · have hxc : (x == c) = false := by rw [beq_eq_false_iff_ne]; exact hx
        have HN : Hid (kpl c = -1 ∨ ((k + 1 : Nat) : Int) ≤ kpl c) := by
          show kpl c = -1 ∨ ((k + 1 : Nat) : Int) ≤ kpl c
          rcases HK.out with h | h
          · exact .inl h
          · right
            by_cases e : kpl c = (k : Int)
            · exfalso
              apply hx
              have h1 := keyL_kpl c (by omega)
              have h2 := keyL_kpl x (by omega)
              have h3 : kpl x = kpl c := by omega
              rw [← h1.2, ← h2.2, h3]
            · omega
        clear HK hkk hx
        go_wp2_with (go_at_call 32; refine (HLt.out _).mono ?_; rintro e w' ⟨rfl, rfl⟩)
        go_round
        case rel => exact ⟨k + 1, by omega, by go_num, HN⟩
        case measure => simp [intOf]; omega
    · have hk39 : k = 39 := by omega
      subst hk39
      have hm : kpl c = -1 := by
        rcases HK.out with h | h
        · exact h
        · have := kpl_le39 c; omega
      have HM := Lib.hid hm
      clear hm
      rw [show ((39 : Nat) : Int) = 39 from rfl]
      go_wp2_with (go_at_call 32; refine (HLt.out _).mono ?_; rintro e w' ⟨rfl, rfl⟩)
      go_ret
      exact ⟨congrArg (fun n => Ending.returned (Value.int .i64 n)) HM.out.symm, rfl⟩

theorem rkCheck_any (s : ByteArray) (w : World) (hl : s.size ≤ 1000000) :
    Calls Tryd.prog 13 #[.string s] w fun e w' => e = .returned (.int .i64 (kCheck (numS s))) ∧ w' = w := by
  obtain ⟨r, hr⟩ : ∃ r, r = kCheck (numS s) := ⟨_, rfl⟩
  rw [← hr]
  unfold kCheck at hr
  have hie := isEmpty_t s
  have hlen := numS_length s
  by_cases h0 : s.size = 0
  · rw [decide_eq_true h0] at hie
    have hn : numS s = [] := List.eq_nil_of_length_eq_zero (by omega)
    rw [if_pos hn] at hr
    subst hr
    clear hn hlen h0
    go_enter Tryd.func13, Tryd.ntmps13
    go_wp2_with fail
    go_ret
    exact ⟨rfl, rfl⟩
  rw [decide_eq_false h0] at hie
  rw [if_neg (fun h => by rw [h] at hlen; simp at hlen; omega)] at hr
  have HRes := Lib.hid hr
  have HX := Lib.hid hlen
  have HIx := Lib.hid (index_s s)
  have HPl := Lib.hid rplace_any
  clear hr hlen h0
  go_enter Tryd.func13, Tryd.ntmps13
  go_wp2_with fail
  go_loop [3] (fun i => ∃ k : Nat, k ≤ s.size ∧ i = .int .i64 k ∧ Hid (((numS s).take k).all isK = true)) (fun i => s.size - (intOf i).toNat)
  case atStart => exact ⟨0, by omega, rfl, rfl⟩
  case round =>
    obtain ⟨k, hk, rfl, HK⟩ := hrel
    by_cases hlt : k < s.size
    · have ixk := HIx.out k hlt
      have htk := take_succ_getD (numS s) k (by rw [HX.out]; exact hlt)
      have hbad : isK ((numS s).getD k 0) = false → (numS s).all isK = false := by
        intro h
        cases hh : (numS s).all isK with
        | false => rfl
        | true =>
          rw [List.all_eq_true] at hh
          have hkl : k < (numS s).length := by rw [HX.out]; exact hlt
          have := hh ((numS s).getD k 0) (by simp only [List.getD_eq_getElem?_getD, List.getElem?_eq_getElem hkl, Option.getD_some]; exact List.getElem_mem _)
          rw [h] at this
          cases this
      generalize (numS s).getD k 0 = c at *
      have hki : (k : Int) < (s.size : Int) := by omega
      by_cases hc : kpl c < 0
      · have hres : r = 2 := by rw [HRes.out, if_pos (hbad (by simp [isK]; omega))]
        subst hres
        clear hbad htk
        go_wp2_with (go_at_call 29; refine (HPl.out _ _).mono ?_; rintro e w' ⟨rfl, rfl⟩)
        go_ret
        exact ⟨rfl, rfl⟩
      · have HN : Hid (((numS s).take (k + 1)).all isK = true) := by
          show ((numS s).take (k + 1)).all isK = true
          rw [htk, List.all_append, HK.out]
          simp [isK]
          omega
        clear hbad htk
        go_wp2_with (go_at_call 29; refine (HPl.out _ _).mono ?_; rintro e w' ⟨rfl, rfl⟩)
        go_round
        case rel => exact ⟨k + 1, by omega, by go_num, HN⟩
        case measure => simp [intOf]; omega
    · have hks : k = s.size := by omega
      subst hks
      have hall : (numS s).all isK = true := by
        have := HK.out
        rwa [List.take_of_length_le (by rw [HX.out]; exact Nat.le_refl _)] at this
      by_cases h32 : 32 < s.size
      · have hres : r = 12 := by rw [HRes.out, if_neg (by rw [hall]; simp), if_pos (by rw [HX.out]; exact h32)]
        subst hres
        clear hall
        go_wp2_with fail
        go_ret
        exact ⟨rfl, rfl⟩
      · have hres : r = 0 := by rw [HRes.out, if_neg (by rw [hall]; simp), if_neg (by rw [HX.out]; exact h32)]
        subst hres
        clear hall
        go_wp2_with fail
        go_ret
        exact ⟨rfl, rfl⟩

theorem rkFits_any (s : ByteArray) (m : Int) (w : World) (hl : s.size ≤ 1000000) :
    Calls Tryd.prog 15 #[.string s, .int .i64 m] w fun e w' => e = .returned (.int .i64 (kFits (numS s) m)) ∧ w' = w := by
  obtain ⟨r, hr⟩ : ∃ r, r = kFits (numS s) m := ⟨_, rfl⟩
  rw [← hr]
  unfold kFits at hr
  rw [numS_length] at hr
  have HC := Lib.hid (rkCheck_any s w hl)
  generalize kCheck (numS s) = c at *
  by_cases h1 : m < 1
  · rw [if_pos (.inl h1)] at hr
    subst hr
    go_enter Tryd.func15, Tryd.ntmps15
    go_wp2_with fail
    go_ret
    exact ⟨rfl, rfl⟩
  by_cases h2 : 32 < m
  · rw [if_pos (.inr h2)] at hr
    subst hr
    go_enter Tryd.func15, Tryd.ntmps15
    go_wp2_with fail
    go_ret
    exact ⟨rfl, rfl⟩
  rw [if_neg (by omega)] at hr
  by_cases h3 : c = 0
  · by_cases h4 : m < (s.size : Int)
    · rw [if_pos ⟨h3, h4⟩] at hr
      subst hr; subst h3
      go_enter Tryd.func15, Tryd.ntmps15
      go_wp2_with fail
      refine HC.out.mono ?_
      rintro e w' ⟨rfl, rfl⟩
      go_wp2_with fail
      go_ret
      exact ⟨rfl, rfl⟩
    · rw [if_neg (fun h => h4 h.2)] at hr
      subst hr; subst h3
      go_enter Tryd.func15, Tryd.ntmps15
      go_wp2_with fail
      refine HC.out.mono ?_
      rintro e w' ⟨rfl, rfl⟩
      go_wp2_with fail
      go_ret
      exact ⟨rfl, rfl⟩
  · rw [if_neg (fun h => h3 h.1)] at hr
    subst hr
    have h3b : (r == 0) = false := by rw [beq_eq_false_iff_ne]; exact h3
    go_enter Tryd.func15, Tryd.ntmps15
    go_wp2_with fail
    refine HC.out.mono ?_
    rintro e w' ⟨rfl, rfl⟩
    go_wp2_with fail
    go_ret
    exact ⟨rfl, rfl⟩
end Go.Proofs.YtogkabdampkbjaaDoor
