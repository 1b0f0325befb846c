/- The document's own sets: all of them, the next one, those of two sets, new ones, copies. -/
import Derived.Test.YtejkbanecbjdoaaSsRef
import Derived.Test.YtejkbanecbjdoaaSsHas
namespace Go.Proofs.Ytejkbanecbjdoaa
open Go Go.RowKit

attribute [local go_sem] Oper.semAt_some

set_option maxHeartbeats 2000000 in
set_option maxRecDepth 100000 in
theorem rall {W : World} {r bi c n : Nat} {f : Nat → Bool} (h : RefAt W r bi c n f) :
    Calls Try.prog 34 #[.pointer (some ⟨r, 0, none⟩)] W fun e w' => (∃ p c, e = .returned (.slice p (els n f).length c) ∧ RdN w' p (els n f) ∧ ∀ a, p = some a → W.heap.size ≤ a.block) ∧ Below W.heap.size W w' := by
  obtain ⟨i0, hi, hz0, hz1, hz2⟩ := info_partsS infoW
  have hn34 := h.top
  have HR := Lib.hid h
  clear h
  go_enter Try.func34, Try.ntmps34
  go_wp2_with fail
  go_loopw [3, 4] (fun v i wr => ∃ k : Nat, k ≤ n ∧ i = .int .i64 k ∧ wr.ownsRow W.heap.size 3 1 v (els k f).length ((els k f).map fun x => Value.int .i64 (x : Nat)) ∧ Hid (Below W.heap.size W wr))
    (fun _ i _ => n - (intOf i).toNat)
  case atStart => exact ⟨0, Nat.zero_le _, rfl, by simpa [els] using World.ownsRow_nil _ _ _ _, Below.refl _ _⟩
  case round =>
    obtain ⟨k, hk, rfl, hown, HB⟩ := hrel
    have hRw := HR.out.below HB.out
    have hs := hRw.slice
    have hv := rvalid hRw
    by_cases hlt : k < n
    · have hcell := hRw.row.cell hlt
      have hk0 : (0 : Int) ≤ (k : Int) := by omega
      have hk1 : (k : Int) < (n : Int) := by omega
      clear hRw
      cases hf : f k with
      | true =>
        rw [hf] at hcell
        have hes : els (k + 1) f = els k f ++ [k] := by rw [els_succ, if_pos hf]
        have hel := els_length_le k f
        have HES := Lib.hid hes
        generalize els k f = l at *
        clear hes hf
        have HOW := Lib.hid hown
        clear hown
        go_wp2_with fail
        refine hv.mono ?_
        rintro e w3 ⟨rfl, hw⟩
        obtain rfl : wr = w3 := hw.symm
        clear hw hv
        have hown := HOW.out
        go_wp2_with (at_builtin; refine wpList_append_own _ rfl _ _ 24 rfl W.heap.size 3 i0 (.int .i64 0) 1 8 Try.underlying24 hi hz0 hz1 hz2 rfl (by decide) _ _ _ rfl (hown.alloc _) ⟨wr.heap.size, 0, none⟩ 1 1 [.int .i64 (k : Nat)] rfl rfl (by intro t u ht; match t, ht with | 0, ht => simp at ht; subst ht; simp [Addr.add]) (by intro u hu; simp at hu; subst hu; rfl) (by unfold maxLen; omega) (by omega) (by have := HB.out.size; simp; omega) ?_; intro v' w2 hown' hgrow _)
        have hrow : ∀ q, Value.ownBlock u3 = some q → W.heap.size ≤ q := fun q hq => (hown.lt q hq).1
        have HB2 := Lib.hid ((HB.out.alloc HB.out.size _).grown hgrow (by have := HB.out.size; simp; omega) hrow)
        have HO := Lib.hid hown'
        clear hown' hgrow hrow hown HOW
        go_wp2_with fail
        go_roundw
        case rel => exact ⟨k + 1, by omega, by simp, by rw [HES.out, List.map_append, List.length_append]; exact HO.out, HB2⟩
        case measure => simp [intOf]; omega
      | false =>
        rw [hf] at hcell
        have hes : els (k + 1) f = els k f := by rw [els_succ, if_neg (by simp [hf]), List.append_nil]
        rw [← hes] at hown
        have HO := Lib.hid hown
        clear hes hf hown
        go_wp2_with fail
        refine hv.mono ?_
        rintro e w3 ⟨rfl, hw⟩
        obtain rfl : wr = w3 := hw.symm
        clear hw hv
        go_wp2_with fail
        go_roundw
        case rel => exact ⟨k + 1, by omega, by simp, HO.out, HB⟩
        case measure => simp [intOf]; omega
    · obtain rfl : k = n := by omega
      obtain ⟨p, c2, hv3, -, -⟩ : ∃ p c, u3 = .slice p (els k f).length c ∧ True ∧ True := by
        rcases hown.2 with ⟨h1, h2⟩ | ⟨g, cap, cur, h1, h2, h3, h4⟩
        · have : els k f = [] := by simpa using h2
          rw [this]; exact ⟨none, 0, h1, trivial, trivial⟩
        · exact ⟨_, _, h1, trivial, trivial⟩
      subst hv3
      have HO := Lib.hid hown
      clear hown hRw
      go_wp2_with fail
      refine hv.mono ?_
      rintro e w3 ⟨rfl, hw⟩
      obtain rfl : wr = w3 := hw.symm
      clear hw hv
      go_wp2_with fail
      go_ret
      exact ⟨⟨p, c2, rfl, rd_of_row HO.out, fun a ha => (HO.out.lt a.block (by rw [ha]; rfl)).1⟩, HB.out⟩

set_option maxHeartbeats 2000000 in
set_option maxRecDepth 100000 in
theorem rallN (W : World) : Calls Try.prog 34 #[.pointer none] W fun e w' => e = .returned (.slice none 0 0) ∧ w' = W := by
  have hv := rvalidN W
  go_enter Try.func34, Try.ntmps34
  go_wp2_with fail
  go_loopw [3, 4] (fun v i wr => v = .slice none 0 0 ∧ i = .int .i64 0 ∧ wr = W) (fun _ _ _ => 0)
  case atStart => exact ⟨rfl, rfl, rfl⟩
  case round =>
    obtain ⟨rfl, rfl, hw⟩ := hrel
    obtain rfl : W = wr := hw.symm
    go_wp2_with fail
    refine hv.mono ?_
    rintro e w3 ⟨rfl, hw⟩
    obtain rfl : W = w3 := hw.symm
    clear hw hv
    go_wp2_with fail
    go_ret
    exact ⟨rfl, rfl⟩

set_option maxHeartbeats 2000000 in
set_option maxRecDepth 100000 in
theorem rnext {W : World} {v : Option Addr} {l : List Nat} (i : Int) (hl : l.length ≤ 34) (h : Calls Try.prog 34 #[.pointer v] W fun e w' => (∃ p c, e = .returned (.slice p l.length c) ∧ RdN w' p l) ∧ Below W.heap.size W w') :
    Calls Try.prog 26 #[.pointer v, .int .i64 i] W fun e w' => e = .returned (.tuple #[.int .i64 ((nxt l i).getD 0 : Nat), .bool (nxt l i).isSome]) ∧ Below W.heap.size W w' := by
  obtain ⟨L, hL⟩ : ∃ L, L = l.length := ⟨_, rfl⟩
  rw [← hL] at h hl
  have HL := Lib.hid hL
  clear hL
  go_enter Try.func26, Try.ntmps26
  go_wp2_with fail
  refine h.mono ?_
  rintro e w1 ⟨⟨p, c, rfl, hr⟩, hb⟩
  have HR := Lib.hid hr
  have HB := Lib.hid hb
  clear h hr hb
  go_wp2_with fail
  go_loopw [7] (fun q wr => ∃ k : Nat, k ≤ L ∧ q = .int .i64 (k : Nat) ∧ wr = w1 ∧ Hid (nxt l i = nxt (l.drop k) i)) (fun q _ => L - (intOf q).toNat)
  case atStart => exact ⟨0, Nat.zero_le _, rfl, rfl, Lib.hid rfl⟩
  case round =>
    obtain ⟨k, hk, rfl, hw, HN⟩ := hrel
    obtain rfl : w1 = wr := hw.symm
    clear hw
    by_cases hlt : k < L
    · obtain ⟨x, hx⟩ : ∃ x, l[k]? = some x := ⟨_, List.getElem?_eq_getElem (by rw [← HL.out]; exact hlt)⟩
      obtain ⟨g, o, rfl, hg, hcell⟩ := HR.out k x hx
      have hnc : nxt l i = if i ≤ (x : Int) then some x else nxt (l.drop (k + 1)) i := by rw [HN.out, drop_at hx, nxt_cons]
      have hk0 : (0 : Int) ≤ (k : Int) := by omega
      have hk1 : (k : Int) < (L : Int) := by omega
      clear hx
      by_cases hle : i ≤ (x : Int)
      · have hd : decide (i ≤ (x : Int)) = true := decide_eq_true hle
        rw [if_pos hle] at hnc
        have HNC := Lib.hid hnc
        clear hnc HN
        go_wp2_with fail
        go_ret2
        exact ⟨by rw [HNC.out]; rfl, HB.out⟩
      · have hd : decide (i ≤ (x : Int)) = false := decide_eq_false hle
        rw [if_neg hle] at hnc
        have HNC := Lib.hid hnc
        clear hnc HN hle
        go_wp2_with fail
        go_roundw
        case rel => exact ⟨k + 1, by omega, by simp, by first | rfl | trivial, HNC⟩
        case measure => simp [intOf]; omega
    · obtain rfl : k = L := by omega
      have hnc := HN.out
      rw [List.drop_eq_nil_of_le (by rw [HL.out]; exact Nat.le_refl _)] at hnc
      have HNC := Lib.hid hnc
      clear hnc HN
      go_wp2_with fail
      go_ret2
      exact ⟨by rw [HNC.out]; rfl, HB.out⟩

set_option maxHeartbeats 800000 in
set_option maxRecDepth 100000 in
theorem rlowest {W : World} {v : Option Addr} {a : Int} {q : Bool} (h : Calls Try.prog 26 #[.pointer v, .int .i64 0] W fun e w' => e = .returned (.tuple #[.int .i64 a, .bool q]) ∧ Below W.heap.size W w') :
    Calls Try.prog 28 #[.pointer v] W fun e w' => e = .returned (.tuple #[.int .i64 a, .bool q]) ∧ Below W.heap.size W w' := by
  go_enter Try.func28, Try.ntmps28
  go_wp2_with (go_at_call 26; refine h.mono ?_; rintro e w' ⟨rfl, hb⟩)
  go_ret2
  exact ⟨rfl, hb⟩
end Go.Proofs.Ytejkbanecbjdoaa
