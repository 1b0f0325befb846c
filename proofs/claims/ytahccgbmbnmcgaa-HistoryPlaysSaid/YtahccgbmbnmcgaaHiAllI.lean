/- The iterator over all elements. -/
import Derived.Test.YtahccgbmbnmcgaaHiRange
import Derived.Test.YtahccgbmbnmcgaaHiAskI
namespace Go.Proofs.Ytahccgbmbnmcgaa
open Go Go.RowKit

attribute [local go_sem] Oper.semAt_some

/-- What yield is called with at a number: the number and the element. -/
def encAI (l : List Int) (i : Nat) : Array Value := #[.int .i64 i, Value.int .i64 (l.getD i (0 : Int))]
/-- .. the element alone. -/
def encEI (l : List Int) (i : Nat) : Array Value := #[Value.int .i64 (l.getD i (0 : Int))]

theorem getDI {l : List Int} {i : Nat} {x : Int} (h : l[i]? = some x) : l.getD i (0 : Int) = x := by rw [List.getD_eq_getElem?_getD, h]; rfl

set_option maxHeartbeats 800000 in
set_option maxRecDepth 100000 in
theorem allMakeI (v' : Option Addr) (W : World) :
    Calls Try.prog 56 #[.pointer v'] W fun e w' => e = .returned (.func (.func 67) #[] #[.pointer (some ⟨W.heap.size, 0, none⟩)]) ∧ w' = W.alloc (.cells #[.pointer v'] 45) := by
  go_enter Try.func56, Try.ntmps56
  go_wp2
  go_ret
  exact ⟨rfl, rfl⟩

set_option maxHeartbeats 800000 in
set_option maxRecDepth 100000 in
theorem sinceMakeI (v' : Option Addr) (W : World) :
    Calls Try.prog 31 #[.pointer v'] W fun e w' => e = .returned (.func (.func 59) #[] #[.pointer (some ⟨W.heap.size, 0, none⟩)]) ∧ w' = W.alloc (.cells #[.pointer v'] 45) := by
  go_enter Try.func31, Try.ntmps31
  go_wp2
  go_ret
  exact ⟨rfl, rfl⟩

set_option maxRecDepth 100000 in
set_option maxHeartbeats 2000000 in
/-- All's iterator: for every caller's relation that tells where the list lies. -/
theorem allSeqI (n : Nat) (hn : 1 ≤ n) (bl : Nat) {b : Nat} {p : Option Addr} {c lim m : Nat} {l : List Int} (w : World) (hbl : w.cell? ⟨bl, 0, none⟩ = some (.pointer (some ⟨b, 0, none⟩))) (hL : HLI w b p c lim m l) :
    SeqIdx Fence.wide n Try.prog 67 #[.pointer (some ⟨bl, 0, none⟩)] (encAI l) (fun A => HLI A b p c lim m l) l.length w := fun lr J Jx W hW hJ hJx hQ hY h0 => by
  have hbl' := (hW.cell (World.block_lt_of_cell? _ _ hbl)).trans hbl
  have hlist := listI (hL.below hW)
  obtain ⟨len, hlen⟩ : ∃ len, len = l.length := ⟨_, rfl⟩
  obtain ⟨hi, hhi⟩ : ∃ hi, hi = W.heap.size := ⟨_, rfl⟩
  have hll : len ≤ 100000 := by rw [hlen]; exact Nat.le_trans hL.ll hL.lm
  have h00 : J hi 0 W := by rw [hhi]; exact h0 W (Below.refl _ _)
  have HYY : Hid (∀ x A, J hi x A → x < len → YieldAt Fence.wide (n - 1) Try.prog lr (encAI l x) A fun e A' => (e = .returned (.bool true) ∧ J hi (x + 1) A') ∨ (e = .returned (.bool false) ∧ Jx hi (x + 1) A')) := Lib.hid fun x A hj hx =>
    (hY _ x A (by rw [hhi]; exact Nat.le_refl _) hj (by rw [← hlen]; exact hx)).mono fun e A' h => h.imp (fun h => ⟨h.1, h.2.1⟩) (fun h => ⟨h.1, h.2.1⟩)
  have HQ : Hid (∀ x A, J hi x A → HLI A b p c lim m l) := Lib.hid fun x A h => hQ _ x A h
  have HH : Hid (W.heap.size ≤ hi) := Lib.hid (by rw [hhi]; exact Nat.le_refl _)
  have HN : Hid (l.length = len) := Lib.hid hlen.symm
  rw [← hlen] at hlist
  clear hW hJ hJx hQ hY h0 hL hbl hhi
  show CallsIn Fence.wide n Try.prog 67 _ W fun e W' => (∃ v, e = .returned v) ∧ ∃ hi', W.heap.size ≤ hi' ∧ (J hi' l.length W' ∨ ∃ k, k ≤ l.length ∧ Jx hi' k W')
  rw [← hlen]
  clear hlen
  refine callsIn_of_wp Try.func67 rfl trivial ?_ rfl
  simp only [Try.ntmps67, List.size_toArray, List.length_cons, List.length_nil, Nat.reduceAdd, Nat.reduceSub, Array.replicate_succ, Array.replicate_zero, List.push_toArray, List.append_toArray, List.nil_append, List.cons_append]
  gi_wp2_with fail
  refine ⟨trivial, (callsIn_wide.2 hlist).mono ?_⟩
  rintro e W1 ⟨rfl, rfl⟩
  clear hlist
  gi_wp2_with fail
  gi_loopw [8] (fun i wr => ∃ k : Nat, k ≤ len ∧ i = .int .i64 k ∧ J hi k wr) (fun i _ => len - (intOf i).toNat)
  case atStart => exact ⟨0, Nat.zero_le _, rfl, h00⟩
  case round =>
    obtain ⟨k, hk, rfl, hJs⟩ := hrel
    clear h00
    by_cases hlt : k < len
    · obtain ⟨x, hx⟩ : ∃ x, l[k]? = some x := ⟨_, List.getElem?_eq_getElem (by rw [HN.out]; exact hlt)⟩
      have hL := HQ.out _ _ hJs
      obtain ⟨g, rfl, hc, hcell⟩ := hL.at hx
      rw [HN.out] at hc
      obtain ⟨fn, tmps, assign, body, hy, hR⟩ := HYY.out k wr hJs hlt
      unfold encAI at hy
      rw [getDI hx] at hy
      have hk0 : (0 : Int) ≤ (k : Int) := by omega
      have hk1 : (k : Int) < (len : Int) := by omega
      clear hL hx hbl'
      gi_wp2_with fail
      refine hR.mono ?_
      rintro e W3 (⟨rfl, hJ3⟩ | ⟨rfl, hJx3⟩)
      · gi_wp2_with fail
        go_roundw
        case rel => exact ⟨k + 1, by omega, by simp, hJ3⟩
        case measure => simp [intOf]; omega
      · gi_wp2_with fail
        refine bodyPost_ret (results_none rfl _ _ _) rfl ?_
        exact ⟨⟨_, rfl⟩, hi, HH.out, .inr ⟨k + 1, by omega, hJx3⟩⟩
    · obtain rfl : k = len := by omega
      gi_wp2_with fail
      go_end0
      exact ⟨⟨_, rfl⟩, hi, HH.out, .inl hJs⟩
end Go.Proofs.Ytahccgbmbnmcgaa
