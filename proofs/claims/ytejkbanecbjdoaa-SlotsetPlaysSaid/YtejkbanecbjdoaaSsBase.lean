/- A set of slots in memory; the functions that ask it, and those that change it. -/
import Derived.Test.YtejkbanecbjdoaaSsOnes
import Derived.Deep.QuietTactic
import Derived.BigQuiet
import Derived.BigRegion
import Derived.Deep.RegionWith
import Derived.OwnWalk
import Derived.WalkLawsBesides
namespace Go.Proofs.Ytejkbanecbjdoaa
open Go Go.RowKit

theorem Below.drewSelf {B : Nat} {w : World} : Below B w w.drew := (Below.refl B w).drew
theorem Below.drewN' {B : Nat} {a : World} : ∀ (n : Nat) {w : World}, Below B a w → Below B a (w.drewN n) := fun _ _ h => ⟨h.os, h.tape, h.output, h.size, h.block⟩

/-- At block b lies a set of size n with the members below n that f says. -/
structure SetAt (W : World) (b n : Nat) (f : Nat → Bool) : Prop where
  head : W.heap[b]? = some (.cells #[.pointer (some ⟨b, 0, none⟩), .int .i64 (n : Nat), .int .u64 (num n f : Nat)] 50 (0, 0))
  pos : 1 ≤ n
  top : n ≤ 34

/-- Only block b is changed. -/
structure Only (b : Nat) (W W' : World) : Prop where
  os : W'.os = W.os
  tape : W'.tape = W.tape
  output : W'.output = W.output
  size : W.heap.size ≤ W'.heap.size
  block : ∀ k, k < W.heap.size → k ≠ b → W'.heap[k]? = W.heap[k]?

theorem run_eql_ptr_sameS {P : Program} (w : World) {tp te : TypeId} (hp : P.underlying tp = some (.pointer te)) (hte : (P.info? te).isSome = true) (a : Addr) :
    (binOp .eql tp (.pointer (some a)) (.pointer (some a))).run P w = .ok (.bool true) w := by
  obtain ⟨j, hj⟩ := Option.isSome_iff_exists.1 hte
  have h : ∀ d : Nat, (Op.equalIn (d + 1) tp (.pointer (some a)) (.pointer (some a))).run P w = .ok true w := fun d => by
    by_cases hz : j.size = 0 <;> simp [Op.equalIn, run_underlying hp, sizeOf, typeInfo, hj, hz, run_sameAddr_same]
  simp only [binOp]
  simp [Op.equal, Op.maxDepth, h 9999]

section
variable {W W' W'' : World} {b n : Nat} {f g : Nat → Bool}

theorem Only.refl (b : Nat) (W : World) : Only b W W := ⟨rfl, rfl, rfl, Nat.le_refl _, fun _ _ _ => rfl⟩
theorem Only.trans (h : Only b W W') (k : Only b W' W'') : Only b W W'' :=
  ⟨k.os.trans h.os, k.tape.trans h.tape, k.output.trans h.output, Nat.le_trans h.size k.size, fun i h1 h2 => (k.block i (by have := h.size; omega) h2).trans (h.block i h1 h2)⟩
theorem Only.of_below (h : Below W.heap.size W W') : Only b W W' := ⟨h.os, h.tape, h.output, h.size, fun k hk _ => h.block k hk⟩
theorem Only.below {N : Nat} (h : Only b W W') (hb : N ≤ b) (hN : N ≤ W.heap.size) : Below N W W' := ⟨h.os, h.tape, h.output, h.size, fun k hk => h.block k (by omega) (by omega)⟩
theorem Only.drewN (h : Only b W W') (q : Nat) : Only b W (W'.drewN q) := ⟨h.os, h.tape, h.output, h.size, h.block⟩

theorem SetAt.lt (h : SetAt W b n f) : b < W.heap.size := (Array.getElem?_eq_some_iff.1 h.head).1
theorem SetAt.same (h : SetAt W b n f) (hb : W'.heap[b]? = W.heap[b]?) : SetAt W' b n f := ⟨hb.trans h.head, h.pos, h.top⟩
theorem SetAt.below (h : SetAt W b n f) (hb : Below W.heap.size W W') : SetAt W' b n f := h.same (hb.block b h.lt)
theorem SetAt.other {b' : Nat} (h : SetAt W b n f) (ho : Only b' W W') (hne : b ≠ b') : SetAt W' b n f := h.same (ho.block b h.lt hne)
theorem SetAt.congr (h : SetAt W b n f) (hf : ∀ i, i < n → f i = g i) : SetAt W b n g := ⟨by rw [← num_congr hf]; exact h.head, h.pos, h.top⟩
theorem SetAt.self (h : SetAt W b n f) : W.cell? ⟨b, 0, none⟩ = some (.pointer (some ⟨b, 0, none⟩)) := by simp [World.cell?, h.head]
theorem SetAt.sz (h : SetAt W b n f) : W.cell? ⟨b, 1, none⟩ = some (.int .i64 (n : Nat)) := by simp [World.cell?, h.head]
theorem SetAt.nm (h : SetAt W b n f) : W.cell? ⟨b, 2, none⟩ = some (.int .u64 (num n f : Nat)) := by simp [World.cell?, h.head]
theorem SetAt.frozen (h : SetAt W b n f) (k : Nat) : W.frozen? ⟨b, k, none⟩ = false := by simp [World.frozen?, h.head]
theorem SetAt.num_small (h : SetAt W b n f) : num n f < 17179869184 := Nat.lt_of_lt_of_le (num_lt n f) (Nat.le_trans (Nat.pow_le_pow_right (by decide) h.top) (by decide))

theorem SetAt.write (h : SetAt W b n f) (g : Nat → Bool) : SetAt (W.setCell ⟨b, 2, none⟩ (.int .u64 (num n g : Nat))) b n g ∧ Only b W (W.setCell ⟨b, 2, none⟩ (.int .u64 (num n g : Nat))) := by
  have hs := setCell_eq_setRow W b 2 _ _ _ (.int .u64 (num n g : Nat)) h.head
  refine ⟨⟨?_, h.pos, h.top⟩, rfl, rfl, rfl, by simp [World.setCell], fun k _ hk => Below.heap_setCell _ _ _ _ (fun e => hk e)⟩
  rw [hs]
  exact setRow_heap W b _ _ _ _ h.head

set_option maxHeartbeats 800000 in
set_option maxRecDepth 100000 in
theorem validS (h : SetAt W b n f) : Calls Try.prog 45 #[.pointer (some ⟨b, 0, none⟩)] W fun e w' => e = .returned (.bool true) ∧ w' = W := by
  have hs := h.self
  clear h
  have hq := fun w a => run_eql_ptr_sameS (P := Try.prog) w Try.underlying27 (by kernel_rfl : (Try.prog.info? 50).isSome = true) a
  go_enter Try.func45, Try.ntmps45
  go_wp2
  go_ret
  exact ⟨rfl, rfl⟩

set_option maxHeartbeats 800000 in
set_option maxRecDepth 100000 in
theorem numberS (h : SetAt W b n f) : Calls Try.prog 49 #[.pointer (some ⟨b, 0, none⟩)] W fun e w' => e = .returned (.int .u64 (num n f : Nat)) ∧ w' = W := by
  have hv := validS h
  have hn := h.nm
  clear h
  generalize num n f = v at *
  go_enter Try.func49, Try.ntmps49
  go_wp2_with (go_at_call 45; refine hv.mono ?_; rintro e w' ⟨rfl, rfl⟩)
  go_ret
  exact ⟨rfl, rfl⟩

set_option maxHeartbeats 800000 in
set_option maxRecDepth 100000 in
theorem sizeS (h : SetAt W b n f) : Calls Try.prog 31 #[.pointer (some ⟨b, 0, none⟩)] W fun e w' => e = .returned (.int .i64 (n : Nat)) ∧ w' = W := by
  have hv := validS h
  have hn := h.sz
  clear h
  go_enter Try.func31, Try.ntmps31
  go_wp2_with (go_at_call 45; refine hv.mono ?_; rintro e w' ⟨rfl, rfl⟩)
  go_ret
  exact ⟨rfl, rfl⟩

set_option maxHeartbeats 800000 in
set_option maxRecDepth 100000 in
theorem lenS (h : SetAt W b n f) : Calls Try.prog 36 #[.pointer (some ⟨b, 0, none⟩)] W fun e w' => e = .returned (.int .i64 ((els n f).length : Nat)) ∧ w' = W := by
  have hv := numberS h
  have hl := pcB_num f (show n ≤ 64 by have := h.top; omega)
  have ho := ones_any (num n f) (by have := h.num_small; omega) W
  rw [hl] at ho
  clear h hl
  generalize num n f = v at *
  generalize (els n f).length = r at *
  go_enter Try.func36, Try.ntmps36
  go_wp2_with fail
  refine hv.mono ?_
  rintro e W1 ⟨rfl, hw⟩
  obtain rfl : W = W1 := hw.symm
  go_wp2_with fail
  refine ho.mono ?_
  rintro e W1 ⟨rfl, hw⟩
  obtain rfl : W = W1 := hw.symm
  go_wp2_with fail
  go_ret
  exact ⟨rfl, rfl⟩

set_option maxHeartbeats 800000 in
set_option maxRecDepth 100000 in
theorem checkS (h : SetAt W b n f) (k : Nat) (hk : k < n) : Calls Try.prog 41 #[.pointer (some ⟨b, 0, none⟩), .int .i64 (k : Nat)] W fun e w' => e = .returned (.int .i64 0) ∧ w' = W := by
  have hv := validS h
  have hn := h.sz
  have h0 : ¬ (k : Int) < 0 := by omega
  have h1 : (k : Int) < (n : Int) := by omega
  clear h hk
  go_enter Try.func41, Try.ntmps41
  go_wp2_with (go_at_call 45; refine hv.mono ?_; rintro e w' ⟨rfl, rfl⟩)
  go_ret
  exact ⟨rfl, rfl⟩

set_option maxHeartbeats 800000 in
set_option maxRecDepth 100000 in
theorem checkOutS (h : SetAt W b n f) (i : Int) (hi : i < 0 ∨ (n : Int) ≤ i) : Calls Try.prog 41 #[.pointer (some ⟨b, 0, none⟩), .int .i64 i] W fun e w' => e = .returned (.int .i64 3) ∧ w' = W := by
  have hv := validS h
  have hn := h.sz
  clear h
  by_cases h0 : i < 0
  · have hd : decide (i < 0) = true := by simpa using h0
    clear hi
    go_enter Try.func41, Try.ntmps41
    go_wp2_with (go_at_call 45; refine hv.mono ?_; rintro e w' ⟨rfl, rfl⟩)
    go_ret
    exact ⟨rfl, rfl⟩
  · have hd : decide (i < 0) = false := by simpa using h0
    have h1 : (n : Int) ≤ i := by omega
    have hd1 : decide ((n : Int) ≤ i) = true := by simpa using h1
    clear hi
    go_enter Try.func41, Try.ntmps41
    go_wp2_with (go_at_call 45; refine hv.mono ?_; rintro e w' ⟨rfl, rfl⟩)
    go_ret
    exact ⟨rfl, rfl⟩

/-- One bit. -/
theorem shl_one {k : Nat} (hk : k < 64) : ((2 : Int) ^ k) = ((2 ^ k : Nat) : Int) ∧ 2 ^ k < 18446744073709551616 ∧ IntKind.u64.wrap ((2 : Int) ^ k) = (2 : Int) ^ k := by
  have h : (2 : Nat) ^ k < 2 ^ 64 := Nat.pow_lt_pow_right (by decide) hk
  have e : ((2 : Int) ^ k) = ((2 ^ k : Nat) : Int) := by simp
  refine ⟨e, h, ?_⟩
  rw [e]
  exact wrap_u64n h

set_option maxHeartbeats 800000 in
set_option maxRecDepth 100000 in
theorem addS (h : SetAt W b n f) (k : Nat) (hk : k < n) : Calls Try.prog 15 #[.pointer (some ⟨b, 0, none⟩), .int .i64 (k : Nat)] W fun e w' => e = .returned (.int .i64 0) ∧ SetAt w' b n (updB f k true) ∧ Only b W w' := by
  have hv := checkS h k hk
  have hn := h.nm
  have hfz := h.frozen 2
  have HF := Lib.hid (h.write (updB f k true))
  have hb := num_or_bit f hk
  obtain ⟨hs, h64, hwr⟩ := shl_one (k := k) (by have := h.top; omega)
  have hor := u64_or_nat (num n f) (2 ^ k) (by have := h.num_small; omega) h64
  rw [hb, ← hs] at hor
  have h0 : (0 : Int) ≤ (k : Int) := by omega
  have h1 : (k : Int) < 64 := by have := h.top; omega
  clear h hb h64 hk hs
  generalize hv1 : num n f = v at *
  generalize hv2 : num n (updB f k true) = v2 at *
  clear hv1 hv2
  go_enter Try.func15, Try.ntmps15
  go_wp2_with (go_at_call 41; refine hv.mono ?_; rintro e w' ⟨rfl, rfl⟩)
  go_region
  all_goals go_wp2
  all_goals go_ret
  all_goals exact ⟨rfl, HF.out.1.below Below.drewSelf, HF.out.2.trans (Only.of_below Below.drewSelf)⟩

set_option maxHeartbeats 800000 in
set_option maxRecDepth 100000 in
theorem addOutS (h : SetAt W b n f) (i : Int) (hi : i < 0 ∨ (n : Int) ≤ i) : Calls Try.prog 15 #[.pointer (some ⟨b, 0, none⟩), .int .i64 i] W fun e w' => e = .returned (.int .i64 3) ∧ w' = W := by
  have hv := checkOutS h i hi
  clear h hi
  go_enter Try.func15, Try.ntmps15
  go_wp2_with (go_at_call 41; refine hv.mono ?_; rintro e w' ⟨rfl, rfl⟩)
  go_ret
  exact ⟨rfl, rfl⟩

set_option maxHeartbeats 800000 in
set_option maxRecDepth 100000 in
theorem removeS (h : SetAt W b n f) (k : Nat) (hk : k < n) : Calls Try.prog 17 #[.pointer (some ⟨b, 0, none⟩), .int .i64 (k : Nat)] W fun e w' => e = .returned (.int .i64 0) ∧ SetAt w' b n (updB f k false) ∧ Only b W w' := by
  have hv := checkS h k hk
  have hn := h.nm
  have hfz := h.frozen 2
  have HF := Lib.hid (h.write (updB f k false))
  have hb := num_clear_bit f (show n ≤ 64 by have := h.top; omega) hk
  obtain ⟨hs, h64, hwr⟩ := shl_one (k := k) (by have := h.top; omega)
  have hor := u64_andNot_nat (num n f) (2 ^ k) (by have := h.num_small; omega) h64
  rw [hb, ← hs] at hor
  have h0 : (0 : Int) ≤ (k : Int) := by omega
  have h1 : (k : Int) < 64 := by have := h.top; omega
  clear h hb h64 hk hs
  generalize hv1 : num n f = v at *
  generalize hv2 : num n (updB f k false) = v2 at *
  clear hv1 hv2
  go_enter Try.func17, Try.ntmps17
  go_wp2_with (go_at_call 41; refine hv.mono ?_; rintro e w' ⟨rfl, rfl⟩)
  go_region
  all_goals go_wp2
  all_goals go_ret
  all_goals exact ⟨rfl, HF.out.1.below Below.drewSelf, HF.out.2.trans (Only.of_below Below.drewSelf)⟩

set_option maxHeartbeats 800000 in
set_option maxRecDepth 100000 in
theorem removeOutS (h : SetAt W b n f) (i : Int) (hi : i < 0 ∨ (n : Int) ≤ i) : Calls Try.prog 17 #[.pointer (some ⟨b, 0, none⟩), .int .i64 i] W fun e w' => e = .returned (.int .i64 3) ∧ w' = W := by
  have hv := checkOutS h i hi
  clear h hi
  go_enter Try.func17, Try.ntmps17
  go_wp2_with (go_at_call 41; refine hv.mono ?_; rintro e w' ⟨rfl, rfl⟩)
  go_ret
  exact ⟨rfl, rfl⟩

set_option maxHeartbeats 800000 in
set_option maxRecDepth 100000 in
theorem hasS (h : SetAt W b n f) (k : Nat) (hk : k < n) : Calls Try.prog 29 #[.pointer (some ⟨b, 0, none⟩), .int .i64 (k : Nat)] W fun e w' => e = .returned (.bool (f k)) ∧ ∃ m, w' = W.drewN m := by
  have hv := fun q => checkS (h.below (Below.drewN' q (Below.refl _ W))) k hk
  have hn := h.nm
  have hb := num_and_bit (n := n) (k := k) f
  obtain ⟨hs, h64, hwr⟩ := shl_one (k := k) (by have := h.top; omega)
  have hand := u64_and_nat (num n f) (2 ^ k) (by have := h.num_small; omega) h64
  rw [hb, ← hs] at hand
  have hz : (2 : Nat) ^ k ≠ 0 := Nat.ne_of_gt (Nat.two_pow_pos k)
  have hd : (((if k < n ∧ f k = true then 2 ^ k else 0 : Nat) : Int) != 0) = f k := by
    cases hf : f k
    · simp
    · rw [if_pos ⟨hk, rfl⟩, bne_iff_ne]
      omega
  have h0 : (0 : Int) ≤ (k : Int) := by omega
  have h1 : (k : Int) < 64 := by have := h.top; omega
  clear h hb h64 hk hs
  generalize hv1 : num n f = v at *
  generalize hv2 : (if k < n ∧ f k = true then 2 ^ k else 0 : Nat) = v2 at *
  clear hv1 hv2
  go_enter Try.func29, Try.ntmps29
  go_wp2
  go_quiet ((go_at_call 41; exact Calls.quiet_of_same (hv _)))
  go_wp2
  go_ret
  exact ⟨rfl, _, rfl⟩

set_option maxHeartbeats 800000 in
set_option maxRecDepth 100000 in
theorem hasOutS (h : SetAt W b n f) (i : Int) (hi : i < 0 ∨ (n : Int) ≤ i) : Calls Try.prog 29 #[.pointer (some ⟨b, 0, none⟩), .int .i64 i] W fun e w' => e = .returned (.bool false) ∧ ∃ m, w' = W.drewN m := by
  have hv := fun q => checkOutS (h.below (Below.drewN' q (Below.refl _ W))) i hi
  clear h hi
  go_enter Try.func29, Try.ntmps29
  go_wp2
  go_quiet ((go_at_call 41; exact Calls.quiet_of_same (hv _)))
  go_wp2
  go_ret
  exact ⟨rfl, _, rfl⟩

set_option maxHeartbeats 800000 in
set_option maxRecDepth 100000 in
theorem matchS {b2 n2 : Nat} (h : SetAt W b n f) (h2 : SetAt W b2 n2 g) : Calls Try.prog 43 #[.pointer (some ⟨b, 0, none⟩), .pointer (some ⟨b2, 0, none⟩)] W fun e w' => e = .returned (.int .i64 (if n = n2 then 0 else 2)) ∧ ∃ m, w' = W.drewN m := by
  have hv := validS h
  have hv2 := validS h2
  have hs := h.sz
  have hs2 := h2.sz
  clear h h2
  by_cases hn : n = n2
  · subst hn
    simp only [if_true]
    go_enter Try.func43, Try.ntmps43
    go_wp2_with fail
    refine hv.mono ?_
    rintro e W1 ⟨rfl, hw⟩
    obtain rfl : W = W1 := hw.symm
    go_wp2_with fail
    refine hv2.mono ?_
    rintro e W1 ⟨rfl, hw⟩
    obtain rfl : W = W1 := hw.symm
    go_wp2
    go_quiet (fail)
    go_wp2
    go_ret
    exact ⟨rfl, _, rfl⟩
  · have hd : ((n : Int) == (n2 : Int)) = false := by simp; omega
    have hd2 : ((n : Int) != (n2 : Int)) = true := by simp; omega
    simp only [if_neg hn]
    clear hn
    go_enter Try.func43, Try.ntmps43
    go_wp2_with fail
    refine hv.mono ?_
    rintro e W1 ⟨rfl, hw⟩
    obtain rfl : W = W1 := hw.symm
    go_wp2_with fail
    refine hv2.mono ?_
    rintro e W1 ⟨rfl, hw⟩
    obtain rfl : W = W1 := hw.symm
    go_wp2
    go_quiet (fail)
    go_wp2
    go_ret
    exact ⟨rfl, _, rfl⟩

set_option maxHeartbeats 800000 in
set_option maxRecDepth 100000 in
theorem unionS {b2 : Nat} (h : SetAt W b n f) (h2 : SetAt W b2 n g) : Calls Try.prog 19 #[.pointer (some ⟨b, 0, none⟩), .pointer (some ⟨b2, 0, none⟩)] W fun e w' => e = .returned (.int .i64 0) ∧ SetAt w' b n (fun i => f i || g i) ∧ Only b W w' := by
  have hm := matchS h h2
  rw [if_pos rfl] at hm
  have hn := fun q => (h.below (Below.drewN' q (Below.refl _ W))).nm
  have hn2 := fun q => (h2.below (Below.drewN' q (Below.refl _ W))).nm
  have hfz := fun q => (h.below (Below.drewN' q (Below.refl _ W))).frozen 2
  have HF := Lib.hid (fun q => (h.below (Below.drewN' q (Below.refl _ W))).write (fun i => f i || g i))
  have hb := num_or (n := n) f g
  have hor := u64_or_nat (num n f) (num n g) (by have := h.num_small; omega) (by have := h2.num_small; omega)
  rw [hb] at hor
  clear h h2 hb
  generalize hv1 : num n f = v at *
  generalize hv2 : num n (fun i => f i || g i) = v2 at *
  generalize hv3 : num n g = v3 at *
  clear hv1 hv2 hv3
  go_enter Try.func19, Try.ntmps19
  go_wp2_with (go_at_call 43; refine hm.mono ?_; rintro e w' ⟨rfl, q, rfl⟩)
  have hn := hn q
  have hn2 := hn2 q
  have hfz := hfz q
  have HF1 := HF.out q
  have HB := Lib.hid (Below.drewN' q (Below.refl W.heap.size W))
  have HF2 := Lib.hid HF1
  clear HF1 HF hm
  generalize W.drewN q = w1 at *
  go_region
  all_goals go_wp2
  all_goals go_ret
  all_goals exact ⟨rfl, HF2.out.1.below Below.drewSelf, (Only.of_below HB.out).trans (HF2.out.2.trans (Only.of_below Below.drewSelf))⟩

set_option maxHeartbeats 800000 in
set_option maxRecDepth 100000 in
theorem unionOutS {b2 n2 : Nat} (h : SetAt W b n f) (h2 : SetAt W b2 n2 g) (hne : n ≠ n2) : Calls Try.prog 19 #[.pointer (some ⟨b, 0, none⟩), .pointer (some ⟨b2, 0, none⟩)] W fun e w' => e = .returned (.int .i64 2) ∧ Below W.heap.size W w' := by
  have hm := matchS h h2
  rw [if_neg hne] at hm
  clear h h2
  go_enter Try.func19, Try.ntmps19
  go_wp2_with (go_at_call 43; refine hm.mono ?_; rintro e w' ⟨rfl, q, rfl⟩)
  go_ret
  exact ⟨rfl, Below.drewN' _ (Below.refl _ _)⟩

set_option maxHeartbeats 800000 in
set_option maxRecDepth 100000 in
theorem minusS {b2 : Nat} (h : SetAt W b n f) (h2 : SetAt W b2 n g) : Calls Try.prog 21 #[.pointer (some ⟨b, 0, none⟩), .pointer (some ⟨b2, 0, none⟩)] W fun e w' => e = .returned (.int .i64 0) ∧ SetAt w' b n (fun i => f i && !g i) ∧ Only b W w' := by
  have hm := matchS h h2
  rw [if_pos rfl] at hm
  have hn := fun q => (h.below (Below.drewN' q (Below.refl _ W))).nm
  have hn2 := fun q => (h2.below (Below.drewN' q (Below.refl _ W))).nm
  have hfz := fun q => (h.below (Below.drewN' q (Below.refl _ W))).frozen 2
  have HF := Lib.hid (fun q => (h.below (Below.drewN' q (Below.refl _ W))).write (fun i => f i && !g i))
  have hb := num_minus f g (show n ≤ 64 by have := h.top; omega)
  have hor := u64_andNot_nat (num n f) (num n g) (by have := h.num_small; omega) (by have := h2.num_small; omega)
  rw [hb] at hor
  clear h h2 hb
  generalize hv1 : num n f = v at *
  generalize hv2 : num n (fun i => f i && !g i) = v2 at *
  generalize hv3 : num n g = v3 at *
  clear hv1 hv2 hv3
  go_enter Try.func21, Try.ntmps21
  go_wp2_with (go_at_call 43; refine hm.mono ?_; rintro e w' ⟨rfl, q, rfl⟩)
  have hn := hn q
  have hn2 := hn2 q
  have hfz := hfz q
  have HF1 := HF.out q
  have HB := Lib.hid (Below.drewN' q (Below.refl W.heap.size W))
  have HF2 := Lib.hid HF1
  clear HF1 HF hm
  generalize W.drewN q = w1 at *
  go_region
  all_goals go_wp2
  all_goals go_ret
  all_goals exact ⟨rfl, HF2.out.1.below Below.drewSelf, (Only.of_below HB.out).trans (HF2.out.2.trans (Only.of_below Below.drewSelf))⟩

set_option maxHeartbeats 800000 in
set_option maxRecDepth 100000 in
theorem minusOutS {b2 n2 : Nat} (h : SetAt W b n f) (h2 : SetAt W b2 n2 g) (hne : n ≠ n2) : Calls Try.prog 21 #[.pointer (some ⟨b, 0, none⟩), .pointer (some ⟨b2, 0, none⟩)] W fun e w' => e = .returned (.int .i64 2) ∧ Below W.heap.size W w' := by
  have hm := matchS h h2
  rw [if_neg hne] at hm
  clear h h2
  go_enter Try.func21, Try.ntmps21
  go_wp2_with (go_at_call 43; refine hm.mono ?_; rintro e w' ⟨rfl, q, rfl⟩)
  go_ret
  exact ⟨rfl, Below.drewN' _ (Below.refl _ _)⟩

end

set_option maxHeartbeats 800000 in
set_option maxRecDepth 100000 in
theorem madeS (W : World) (n : Nat) (f : Nat → Bool) (h1 : 1 ≤ n) (h34 : n ≤ 34) : Calls Try.prog 40 #[.int .i64 (n : Nat), .int .u64 (num n f : Nat)] W fun e w' => e = .returned (.pointer (some ⟨W.heap.size, 0, none⟩)) ∧ SetAt w' W.heap.size n f ∧ Below W.heap.size W w' ∧ w'.heap.size = W.heap.size + 1 := by
  generalize hv : num n f = v
  go_enter Try.func40, Try.ntmps40
  go_wp2
  go_ret
  refine ⟨rfl, ⟨?_, h1, h34⟩, (Below.refl _ _).alloc (Nat.le_refl _) _, by simp⟩
  rw [hv]
  exact heap_alloc_new W _

set_option maxHeartbeats 800000 in
set_option maxRecDepth 100000 in
theorem newS (W : World) (n : Nat) (h1 : 1 ≤ n) (h34 : n ≤ 34) : Calls Try.prog 13 #[.int .i64 (n : Nat)] W fun e w' => e = .returned (.tuple #[.pointer (some ⟨W.heap.size, 0, none⟩), .int .i64 0]) ∧ SetAt w' W.heap.size n (fun _ => false) ∧ Below W.heap.size W w' ∧ w'.heap.size = W.heap.size + 1 := by
  have hm := madeS W n (fun _ => false) h1 h34
  rw [num_zero] at hm
  have h2 : ¬ (n : Int) < 1 := by omega
  have h3 : ¬ (34 : Int) < (n : Int) := by omega
  go_enter Try.func13, Try.ntmps13
  go_wp2_with (go_at_call 40; refine hm.mono ?_; rintro e w' ⟨rfl, HF⟩)
  go_ret2
  exact ⟨rfl, HF⟩

set_option maxHeartbeats 800000 in
set_option maxRecDepth 100000 in
theorem newBadS (W : World) (i : Int) (h : i < 1 ∨ 34 < i) : Calls Try.prog 13 #[.int .i64 i] W fun e w' => e = .returned (.tuple #[.pointer none, .int .i64 2]) ∧ w' = W := by
  by_cases h1 : i < 1
  · have hd : decide (i < 1) = true := by simpa using h1
    clear h
    go_enter Try.func13, Try.ntmps13
    go_wp2_with fail
    go_ret2
    exact ⟨rfl, rfl⟩
  · have hd : decide (i < 1) = false := by simpa using h1
    have h3 : 34 < i := by omega
    have h2 : decide (34 < i) = true := by simpa using h3
    clear h
    go_enter Try.func13, Try.ntmps13
    go_wp2_with fail
    go_ret2
    exact ⟨rfl, rfl⟩

set_option maxHeartbeats 800000 in
set_option maxRecDepth 100000 in
theorem copyS {W : World} {b n : Nat} {f : Nat → Bool} (h : SetAt W b n f) : Calls Try.prog 23 #[.pointer (some ⟨b, 0, none⟩)] W fun e w' => e = .returned (.pointer (some ⟨W.heap.size, 0, none⟩)) ∧ SetAt w' W.heap.size n f ∧ Below W.heap.size W w' ∧ w'.heap.size = W.heap.size + 1 := by
  have hv := validS h
  have hs := h.sz
  have hn := h.nm
  have hm : Hid (∀ q, Calls Try.prog 40 #[.int .i64 (n : Nat), .int .u64 (num n f : Nat)] (W.drewN q) fun e w' => e = .returned (.pointer (some ⟨W.heap.size, 0, none⟩)) ∧ Hid (SetAt w' W.heap.size n f ∧ Below W.heap.size W w' ∧ w'.heap.size = W.heap.size + 1)) := Lib.hid fun q =>
    (madeS (W.drewN q) n f h.pos h.top).mono fun e w' ⟨he, h1, h2, h3⟩ => ⟨he, h1, (Below.drewN' q (Below.refl _ W)).trans h2, h3⟩
  clear h
  generalize num n f = v at *
  go_enter Try.func23, Try.ntmps23
  go_wp2_with (go_at_call 45; refine hv.mono ?_; rintro e w' ⟨rfl, rfl⟩)
  go_region_with (go_at_call 40; refine (hm.out _).mono ?_; rintro e w2 ⟨rfl, HF⟩)
  all_goals go_wp2
  all_goals go_ret
  all_goals exact ⟨rfl, HF.out⟩
end Go.Proofs.Ytejkbanecbjdoaa
