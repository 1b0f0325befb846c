/- All's iterator. -/
import Derived.Test.YtejkbanecbjdoaaRangeN
import Derived.Test.YtejkbanecbjdoaaSsBase
namespace Go.Proofs.Ytejkbanecbjdoaa
open Go Go.RowKit

attribute [local go_sem] Oper.semAt_some

/-- The thing at a place. -/
def nth (l : List Nat) (i : Nat) : Nat := l.getD i 0
theorem nth_at {l : List Nat} {i x : Nat} (h : l[i]? = some x) : nth l i = x := by unfold nth; rw [List.getD_eq_getElem?_getD, h]; rfl

theorem els_prefix {n i : Nat} (f : Nat → Bool) (h : i ≤ n) : els i f <+: els n f := by
  obtain ⟨d, rfl⟩ : ∃ d, n = i + d := ⟨n - i, by omega⟩
  refine ⟨((List.range d).map (i + ·)).filter f, ?_⟩
  unfold els
  rw [List.range_add, List.filter_append]

theorem els_at {n i : Nat} {f : Nat → Bool} (h : i < n) (hf : f i = true) : (els n f)[(els i f).length]? = some i := by
  have h1 : els (i + 1) f <+: els n f := els_prefix f h
  rw [els_succ, if_pos hf] at h1
  obtain ⟨t, e⟩ := h1
  rw [← e]
  simp

set_option maxHeartbeats 800000 in
set_option maxRecDepth 100000 in
theorem allMakeS (v' : Option Addr) (W : World) :
    Calls Try.prog 39 #[.pointer v'] W fun e w' => e = .returned (.func (.func 50) #[] #[.pointer (some ⟨W.heap.size, 0, none⟩)]) ∧ w' = W.alloc (.cells #[.pointer v'] 27) := by
  go_enter Try.func39, Try.ntmps39
  go_wp2
  go_ret
  exact ⟨rfl, rfl⟩

set_option maxRecDepth 100000 in
set_option maxHeartbeats 2000000 in
theorem all1S_in (n : Nat) (hn : 3 ≤ n) (lr bm : Nat) {b N : Nat} {f : Nat → Bool} (J Jx : List Nat → World → Prop)
    (hY : ∀ (m : Nat) pre x W, J pre W → (els N f)[pre.length]? = some x → YieldAt Fence.wide m Try.prog lr #[Value.int .i64 (x : Nat)] W fun e W' =>
      (e = .returned (.bool true) ∧ J (pre ++ [x]) W') ∨ (e = .returned (.bool false) ∧ Jx (pre ++ [x]) W'))
    (W : World) (hm : W.cell? ⟨bm, 0, none⟩ = some (.pointer (some ⟨b, 0, none⟩))) (hS : SetAt W b N f) (h0 : J [] W) :
    CallsIn Fence.wide n Try.prog 50 #[.func (.yield lr) #[] #[], .pointer (some ⟨bm, 0, none⟩)] W fun e W' => (∃ v, e = .returned v) ∧ (J (els N f) W' ∨ ∃ pre, pre <+: els N f ∧ Jx pre W') := by
  have hnum := numberS hS
  have hsize := sizeS hS
  have htop := hS.top
  have hsm := hS.num_small
  have hbit : ∀ k, k < N → IntKind.u64.wrap ((2 : Int) ^ k) = (2 : Int) ^ k ∧ bits .and .u64 (num N f : Nat) ((2 : Int) ^ k) = ((if k < N ∧ f k = true then 2 ^ k else 0 : Nat) : Int) ∧ (((if k < N ∧ f k = true then 2 ^ k else 0 : Nat) : Int) != 0) = f k := fun k hk => by
    obtain ⟨hs, h64, hwr⟩ := shl_one (k := k) (by omega)
    have hb := num_and_bit (n := N) (k := k) f
    have hand := u64_and_nat (num N f) (2 ^ k) (by omega) h64
    rw [hb, ← hs] at hand
    refine ⟨hwr, hand, ?_⟩
    have hz : (2 : Nat) ^ k ≠ 0 := Nat.ne_of_gt (Nat.two_pow_pos k)
    cases hf : f k
    · simp
    · rw [if_pos ⟨hk, rfl⟩, bne_iff_ne]
      omega
  have HB := Lib.hid hbit
  have HY := Lib.hid hY
  have h1 : 1 ≤ n := by omega
  clear hbit hY hS hsm
  generalize hv1 : num N f = v at *
  clear hv1
  refine callsIn_of_wp Try.func50 rfl trivial ?_ rfl
  simp only [Try.ntmps50, List.size_toArray, List.length_cons, List.length_nil, Nat.reduceAdd, Nat.reduceSub, Array.replicate_succ, Array.replicate_zero, List.push_toArray, List.append_toArray, List.nil_append, List.cons_append]
  gi_wp2_with fail
  refine ⟨trivial, (callsIn_wide.2 hnum).mono ?_⟩
  rintro e w' ⟨rfl, hw⟩
  obtain rfl : W = w' := hw.symm
  gi_wp2_with fail
  refine ⟨trivial, (callsIn_wide.2 hsize).mono ?_⟩
  rintro e w' ⟨rfl, hw⟩
  obtain rfl : W = w' := hw.symm
  gi_wp2_with fail
  gi_loopw [9] (fun i wr => ∃ k : Nat, k ≤ N ∧ i = .int .i64 k ∧ J (els k f) wr) (fun i _ => N - (intOf i).toNat)
  case atStart => exact ⟨0, Nat.zero_le _, rfl, h0⟩
  case round =>
    obtain ⟨k, hk, rfl, hJs⟩ := hrel
    by_cases hlt : k < N
    · obtain ⟨hb1, hb2, hb3⟩ := HB.out k hlt
      have hk0 : (0 : Int) ≤ (k : Int) := by omega
      have hk1 : (k : Int) < 64 := by omega
      generalize (if k < N ∧ f k = true then 2 ^ k else 0 : Nat) = z at *
      cases hf : f k with
      | true =>
        rw [hf] at hb3
        have hat := els_at hlt hf
        have hnx : els (k + 1) f = els k f ++ [k] := by rw [els_succ, if_pos hf]
        obtain ⟨fn, tmps, assign, body, hy, hR⟩ := HY.out (n - 1) _ k _ hJs hat
        rw [← hnx] at hR
        have HX := Lib.hid (And.intro hat hnx)
        have HJS := Lib.hid hJs
        clear hJs hat hnx hf
        gi_wp2
        refine hR.mono ?_
        rintro e W3 (⟨rfl, hJ3⟩ | ⟨rfl, hJx3⟩)
        · gi_wp2
          go_roundw
          case rel => exact ⟨k + 1, by omega, by simp, hJ3⟩
          case measure => simp [intOf]; omega
        · gi_wp2
          refine bodyPost_ret (results_none rfl _ _ _) rfl ?_
          exact ⟨⟨_, rfl⟩, .inr ⟨_, els_prefix f hlt, hJx3⟩⟩
      | false =>
        rw [hf] at hb3
        have hnx : els (k + 1) f = els k f := by rw [els_succ, if_neg (by simp [hf]), List.append_nil]
        rw [← hnx] at hJs
        have HJS := Lib.hid hJs
        clear hJs hnx hf
        gi_wp2
        refine ⟨(fun f hf => by cases hf), ?_⟩
        gi_wp2
        go_roundw
        case rel => exact ⟨k + 1, by omega, by simp, HJS.out⟩
        case measure => simp [intOf]; omega
    · obtain rfl : k = N := by omega
      gi_wp2
      go_end0
      exact ⟨⟨_, rfl⟩, .inl hJs⟩

/-- All's iterator, told by the places of what it yields. -/
theorem allSeqS (n : Nat) (hn : 3 ≤ n) {b N : Nat} {f : Nat → Bool} (bm : Nat) (w : World) (hm : w.cell? ⟨bm, 0, none⟩ = some (.pointer (some ⟨b, 0, none⟩))) (hS : SetAt w b N f) :
    SeqN Fence.wide n Try.prog 50 #[.pointer (some ⟨bm, 0, none⟩)] (fun i => #[Value.int .i64 (nth (els N f) i : Nat)]) (els N f).length w := fun lr J Jx W hW hY h0 => by
  have hm' := (hW.cell (World.block_lt_of_cell? _ _ hm)).trans hm
  refine (all1S_in n hn lr bm (fun pre => J pre.length) (fun pre => Jx pre.length)
    (fun m pre x W1 hj hx => by
      have := yieldDepth rfl m (hY pre.length W1 hj (List.getElem?_eq_some_iff.1 hx).1)
      have hd : nth (els N f) pre.length = x := nth_at hx
      simp only [hd] at this
      simp only [List.length_append, List.length_singleton]
      exact this) W hm' (hS.below hW) h0).mono ?_
  rintro e W' ⟨he, hor⟩
  refine ⟨he, ?_⟩
  rcases hor with h | ⟨pre, h1, h2⟩
  · exact .inl h
  · exact .inr ⟨_, h1.length_le, h2⟩

set_option maxHeartbeats 800000 in
set_option maxRecDepth 100000 in
theorem yieldsS (g : Nat) (lb : Array Value) (W : World) :
    Calls Try.prog 47 #[.func (.func g) #[] lb] W fun e w' => e = .returned (.func (.func g) #[] lb) ∧ w' = W := by
  have hq := fun w f x y => run_eql_func_nil (P := Try.prog) w Try.underlying62 f x y
  go_enter Try.func47, Try.ntmps47
  go_wp2
  go_ret
  exact ⟨rfl, rfl⟩
end Go.Proofs.Ytejkbanecbjdoaa
