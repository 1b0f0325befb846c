/- A queue beside other memory: its own block b lies below N, its row from N on; what lies below N besides b is left alone. -/
import Derived.Test.YtbkdcafamdiliaaPqPopS
import Derived.Test.YtbkdcafamdiliaaPqChg
namespace Go.Proofs.Ytbkdcafamdiliaa
open Go Go.RowKit

def QHS (W : World) (N b S : Nat) (m : Nat → Option ByteArray) : Prop := b < N ∧ N ≤ W.heap.size ∧ ∃ p, PQS W 0 b p S m ∧ ∀ a, p = some a → N ≤ a.block

section
variable {W : World} {N b S : Nat} {m : Nat → Option ByteArray}

theorem QHS.below {W' : World} (h : QHS W N b S m) (hb : Below W.heap.size W W') : QHS W' N b S m := by
  obtain ⟨h1, h2, p, h3, h4⟩ := h
  exact ⟨h1, Nat.le_trans h2 hb.size, p, h3.below hb, h4⟩

/-- What leaves b and all from N on alone leaves the queue alone. -/
theorem QHS.other {W' : World} (h : QHS W N b S m) (hs : W.heap.size ≤ W'.heap.size) (hk : ∀ k, k < W.heap.size → k = b ∨ N ≤ k → W'.heap[k]? = W.heap[k]?) : QHS W' N b S m := by
  obtain ⟨h1, h2, p, h3, h4⟩ := h
  exact ⟨h1, Nat.le_trans h2 hs, p, h3.same hs (hk b h3.lt (.inl rfl)) (fun a ha => hk _ (h3.own ha).2.1 (.inr (h4 a ha))), h4⟩

theorem QHS.size (h : QHS W N b S m) : 1 ≤ S ∧ S ≤ 1024 := by
  obtain ⟨h1, h2, p, h3, h4⟩ := h
  exact h3.size
theorem QHS.cnt (h : QHS W N b S m) : cntQ S m ≤ 1024 := by
  obtain ⟨h1, h2, p, h3, h4⟩ := h
  exact h3.cnt
theorem QHS.low (h : QHS W N b S m) {k : Nat} (hk : S ≤ k) : m k = none := by
  obtain ⟨h1, h2, p, h3, h4⟩ := h
  exact h3.low hk
theorem QHS.fst (h : QHS W N b S m) : (∃ x, FstS m x) ∨ ∀ k, m k = none := by
  obtain ⟨h1, h2, p, h3, h4⟩ := h
  exact h3.fst

theorem newHS (S : Nat) (h1 : 1 ≤ S) (h2 : S ≤ 1024) (W : World) : Calls Try.prog 74 #[.int .i64 (S : Nat)] W fun e w' => e = .returned (.tuple #[.pointer (some ⟨W.heap.size, 0, none⟩), .int .i64 0]) ∧ PQS w' 0 W.heap.size none S (fun _ => none) ∧ Below W.heap.size W w' ∧ w'.heap.size = W.heap.size + 1 := newS S h1 h2 W

theorem pushHS (h : QHS W N b S m) {k : Nat} (hk : k < S) (hm : m k = none) (v : ByteArray) :
    Calls Try.prog 75 #[.pointer (some ⟨b, 0, none⟩), .int .i64 (k : Nat), Value.string v] W fun e w' => e = .returned (.int .i64 0) ∧ QHS w' N b S (mSet m k (some v)) ∧ Chg N b W w' := by
  obtain ⟨h1, h2, p, h3, h4⟩ := h
  refine (pushS h3 (Nat.zero_le _) hk hm v).mono ?_
  rintro e w' ⟨he, p', h5, h6, h7⟩
  exact ⟨he, ⟨h1, Nat.le_trans h2 h6.size, p', h5, h7.low h2 h4⟩, h6.chg h2 h4⟩
theorem pushHaveHS (h : QHS W N b S m) {k : Nat} {u : ByteArray} (hm : m k = some u) (v : ByteArray) :
    Calls Try.prog 75 #[.pointer (some ⟨b, 0, none⟩), .int .i64 (k : Nat), Value.string v] W fun e w' => e = .returned (.int .i64 6) ∧ w' = W := by
  obtain ⟨h1, h2, p, h3, h4⟩ := h
  exact pushHaveS h3 hm v
theorem pushBadHS (h : QHS W N b S m) {k : Int} (hk : k < 0 ∨ (S : Int) ≤ k) (v : ByteArray) :
    Calls Try.prog 75 #[.pointer (some ⟨b, 0, none⟩), .int .i64 k, Value.string v] W fun e w' => e = .returned (.int .i64 3) ∧ w' = W := by
  obtain ⟨h1, h2, p, h3, h4⟩ := h
  exact pushBadS h3 hk v
theorem changeHS (h : QHS W N b S m) {k : Nat} {u : ByteArray} (hm : m k = some u) (v : ByteArray) :
    Calls Try.prog 76 #[.pointer (some ⟨b, 0, none⟩), .int .i64 (k : Nat), Value.string v] W fun e w' => e = .returned (.int .i64 0) ∧ QHS w' N b S (mSet m k (some v)) ∧ Chg N b W w' := by
  obtain ⟨h1, h2, p, h3, h4⟩ := h
  refine (changeS h3 hm v).mono ?_
  rintro e w' ⟨he, h5, h6⟩
  exact ⟨he, ⟨h1, Nat.le_trans h2 h6.size, p, h5, h4⟩, h6.chg h2 h4⟩
theorem changeNoHS (h : QHS W N b S m) {k : Nat} (hk : k < S) (hm : m k = none) (v : ByteArray) :
    Calls Try.prog 76 #[.pointer (some ⟨b, 0, none⟩), .int .i64 (k : Nat), Value.string v] W fun e w' => e = .returned (.int .i64 5) ∧ w' = W := by
  obtain ⟨h1, h2, p, h3, h4⟩ := h
  exact changeNoS h3 hk hm v
theorem changeBadHS (h : QHS W N b S m) {k : Int} (hk : k < 0 ∨ (S : Int) ≤ k) (v : ByteArray) :
    Calls Try.prog 76 #[.pointer (some ⟨b, 0, none⟩), .int .i64 k, Value.string v] W fun e w' => e = .returned (.int .i64 3) ∧ w' = W := by
  obtain ⟨h1, h2, p, h3, h4⟩ := h
  exact changeBadS h3 hk v
theorem removeHS (h : QHS W N b S m) {k : Nat} {v : ByteArray} (hm : m k = some v) :
    Calls Try.prog 78 #[.pointer (some ⟨b, 0, none⟩), .int .i64 (k : Nat)] W fun e w' => e = .returned (.tuple #[Value.string v, .bool true]) ∧ QHS w' N b S (mSet m k none) ∧ Chg N b W w' := by
  obtain ⟨h1, h2, p, h3, h4⟩ := h
  refine (removeS h3 hm).mono ?_
  rintro e w' ⟨he, h5, h6⟩
  exact ⟨he, ⟨h1, Nat.le_trans h2 h6.size, p, h5, h4⟩, h6.chg h2 h4⟩
theorem removeNoHS (h : QHS W N b S m) (k : Int) (hk : 0 ≤ k → m k.toNat = none) :
    Calls Try.prog 78 #[.pointer (some ⟨b, 0, none⟩), .int .i64 k] W fun e w' => e = .returned (.tuple #[.string ⟨#[]⟩, .bool false]) ∧ w' = W := by
  obtain ⟨h1, h2, p, h3, h4⟩ := h
  exact removeNoS h3 k hk
theorem popHS (h : QHS W N b S m) {x : Nat × ByteArray} (hx : FstS m x) :
    Calls Try.prog 72 #[.pointer (some ⟨b, 0, none⟩)] W fun e w' => e = .returned (.tuple #[.int .i64 (x.1 : Nat), Value.string x.2, .bool true]) ∧ QHS w' N b S (mSet m x.1 none) ∧ Chg N b W w' := by
  obtain ⟨h1, h2, p, h3, h4⟩ := h
  refine (popS h3 hx).mono ?_
  rintro e w' ⟨he, h5, h6⟩
  exact ⟨he, ⟨h1, Nat.le_trans h2 h6.size, p, h5, h4⟩, h6.chg h2 h4⟩
theorem popNoHS (h : QHS W N b S m) (hx : ∀ k, m k = none) :
    Calls Try.prog 72 #[.pointer (some ⟨b, 0, none⟩)] W fun e w' => e = .returned (.tuple #[.int .i64 0, .string ⟨#[]⟩, .bool false]) ∧ Below W.heap.size W w' := by
  obtain ⟨h1, h2, p, h3, h4⟩ := h
  exact popNoS h3 hx
theorem peekHS (h : QHS W N b S m) {x : Nat × ByteArray} (hx : FstS m x) :
    Calls Try.prog 79 #[.pointer (some ⟨b, 0, none⟩)] W fun e w' => e = .returned (.tuple #[.int .i64 (x.1 : Nat), Value.string x.2, .bool true]) ∧ Below W.heap.size W w' := by
  obtain ⟨h1, h2, p, h3, h4⟩ := h
  exact peekS h3 hx
theorem peekNoHS (h : QHS W N b S m) (hx : ∀ k, m k = none) :
    Calls Try.prog 79 #[.pointer (some ⟨b, 0, none⟩)] W fun e w' => e = .returned (.tuple #[.int .i64 0, .string ⟨#[]⟩, .bool false]) ∧ Below W.heap.size W w' := by
  obtain ⟨h1, h2, p, h3, h4⟩ := h
  exact peekNoS h3 hx
theorem priorityHS (h : QHS W N b S m) {k : Nat} {v : ByteArray} (hm : m k = some v) :
    Calls Try.prog 77 #[.pointer (some ⟨b, 0, none⟩), .int .i64 (k : Nat)] W fun e w' => e = .returned (.tuple #[Value.string v, .bool true]) ∧ w' = W := by
  obtain ⟨h1, h2, p, h3, h4⟩ := h
  exact priorityS h3 hm
theorem priorityNoHS (h : QHS W N b S m) (k : Int) (hk : 0 ≤ k → m k.toNat = none) :
    Calls Try.prog 77 #[.pointer (some ⟨b, 0, none⟩), .int .i64 k] W fun e w' => e = .returned (.tuple #[.string ⟨#[]⟩, .bool false]) ∧ w' = W := by
  obtain ⟨h1, h2, p, h3, h4⟩ := h
  exact priorityNoS h3 k hk
theorem lenHS (h : QHS W N b S m) :
    Calls Try.prog 69 #[.pointer (some ⟨b, 0, none⟩)] W fun e w' => e = .returned (.int .i64 (cntQ S m : Nat)) ∧ w' = W := by
  obtain ⟨h1, h2, p, h3, h4⟩ := h
  exact lenS h3
end
end Go.Proofs.Ytbkdcafamdiliaa
