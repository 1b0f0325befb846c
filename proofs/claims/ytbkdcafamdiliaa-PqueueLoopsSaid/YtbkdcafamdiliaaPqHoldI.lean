/- A queue beside other memory: its own block b lies below N, its row from N on; what lies below N besides b is left alone. -/
import Derived.Test.YtbkdcafamdiliaaPqPopI
import Derived.Test.YtbkdcafamdiliaaPqChg
namespace Go.Proofs.Ytbkdcafamdiliaa
open Go Go.RowKit

def QHI (W : World) (N b S : Nat) (m : Nat → Option Int) : Prop := b < N ∧ N ≤ W.heap.size ∧ ∃ p, PQI W 0 b p S m ∧ ∀ a, p = some a → N ≤ a.block

section
variable {W : World} {N b S : Nat} {m : Nat → Option Int}

theorem QHI.below {W' : World} (h : QHI W N b S m) (hb : Below W.heap.size W W') : QHI W' N b S m := by
  obtain ⟨h1, h2, p, h3, h4⟩ := h
  exact ⟨h1, Nat.le_trans h2 hb.size, p, h3.below hb, h4⟩

/-- What leaves b and all from N on alone leaves the queue alone. -/
theorem QHI.other {W' : World} (h : QHI W N b S m) (hs : W.heap.size ≤ W'.heap.size) (hk : ∀ k, k < W.heap.size → k = b ∨ N ≤ k → W'.heap[k]? = W.heap[k]?) : QHI W' N b S m := by
  obtain ⟨h1, h2, p, h3, h4⟩ := h
  exact ⟨h1, Nat.le_trans h2 hs, p, h3.same hs (hk b h3.lt (.inl rfl)) (fun a ha => hk _ (h3.own ha).2.1 (.inr (h4 a ha))), h4⟩

theorem QHI.size (h : QHI W N b S m) : 1 ≤ S ∧ S ≤ 1024 := by
  obtain ⟨h1, h2, p, h3, h4⟩ := h
  exact h3.size
theorem QHI.cnt (h : QHI W N b S m) : cntQ S m ≤ 1024 := by
  obtain ⟨h1, h2, p, h3, h4⟩ := h
  exact h3.cnt
theorem QHI.low (h : QHI W N b S m) {k : Nat} (hk : S ≤ k) : m k = none := by
  obtain ⟨h1, h2, p, h3, h4⟩ := h
  exact h3.low hk
theorem QHI.fst (h : QHI W N b S m) : (∃ x, FstI m x) ∨ ∀ k, m k = none := by
  obtain ⟨h1, h2, p, h3, h4⟩ := h
  exact h3.fst

theorem newHI (S : Nat) (h1 : 1 ≤ S) (h2 : S ≤ 1024) (W : World) : Calls Try.prog 141 #[.int .i64 (S : Nat)] W fun e w' => e = .returned (.tuple #[.pointer (some ⟨W.heap.size, 0, none⟩), .int .i64 0]) ∧ PQI w' 0 W.heap.size none S (fun _ => none) ∧ Below W.heap.size W w' ∧ w'.heap.size = W.heap.size + 1 := newI S h1 h2 W

theorem pushHI (h : QHI W N b S m) {k : Nat} (hk : k < S) (hm : m k = none) (v : Int) :
    Calls Try.prog 142 #[.pointer (some ⟨b, 0, none⟩), .int .i64 (k : Nat), Value.int .i64 v] W fun e w' => e = .returned (.int .i64 0) ∧ QHI w' N b S (mSet m k (some v)) ∧ Chg N b W w' := by
  obtain ⟨h1, h2, p, h3, h4⟩ := h
  refine (pushI h3 (Nat.zero_le _) hk hm v).mono ?_
  rintro e w' ⟨he, p', h5, h6, h7⟩
  exact ⟨he, ⟨h1, Nat.le_trans h2 h6.size, p', h5, h7.low h2 h4⟩, h6.chg h2 h4⟩
theorem pushHaveHI (h : QHI W N b S m) {k : Nat} {u : Int} (hm : m k = some u) (v : Int) :
    Calls Try.prog 142 #[.pointer (some ⟨b, 0, none⟩), .int .i64 (k : Nat), Value.int .i64 v] W fun e w' => e = .returned (.int .i64 6) ∧ w' = W := by
  obtain ⟨h1, h2, p, h3, h4⟩ := h
  exact pushHaveI h3 hm v
theorem pushBadHI (h : QHI W N b S m) {k : Int} (hk : k < 0 ∨ (S : Int) ≤ k) (v : Int) :
    Calls Try.prog 142 #[.pointer (some ⟨b, 0, none⟩), .int .i64 k, Value.int .i64 v] W fun e w' => e = .returned (.int .i64 3) ∧ w' = W := by
  obtain ⟨h1, h2, p, h3, h4⟩ := h
  exact pushBadI h3 hk v
theorem changeHI (h : QHI W N b S m) {k : Nat} {u : Int} (hm : m k = some u) (v : Int) :
    Calls Try.prog 144 #[.pointer (some ⟨b, 0, none⟩), .int .i64 (k : Nat), Value.int .i64 v] W fun e w' => e = .returned (.int .i64 0) ∧ QHI w' N b S (mSet m k (some v)) ∧ Chg N b W w' := by
  obtain ⟨h1, h2, p, h3, h4⟩ := h
  refine (changeI h3 hm v).mono ?_
  rintro e w' ⟨he, h5, h6⟩
  exact ⟨he, ⟨h1, Nat.le_trans h2 h6.size, p, h5, h4⟩, h6.chg h2 h4⟩
theorem changeNoHI (h : QHI W N b S m) {k : Nat} (hk : k < S) (hm : m k = none) (v : Int) :
    Calls Try.prog 144 #[.pointer (some ⟨b, 0, none⟩), .int .i64 (k : Nat), Value.int .i64 v] W fun e w' => e = .returned (.int .i64 5) ∧ w' = W := by
  obtain ⟨h1, h2, p, h3, h4⟩ := h
  exact changeNoI h3 hk hm v
theorem changeBadHI (h : QHI W N b S m) {k : Int} (hk : k < 0 ∨ (S : Int) ≤ k) (v : Int) :
    Calls Try.prog 144 #[.pointer (some ⟨b, 0, none⟩), .int .i64 k, Value.int .i64 v] W fun e w' => e = .returned (.int .i64 3) ∧ w' = W := by
  obtain ⟨h1, h2, p, h3, h4⟩ := h
  exact changeBadI h3 hk v
theorem removeHI (h : QHI W N b S m) {k : Nat} {v : Int} (hm : m k = some v) :
    Calls Try.prog 145 #[.pointer (some ⟨b, 0, none⟩), .int .i64 (k : Nat)] W fun e w' => e = .returned (.tuple #[Value.int .i64 v, .bool true]) ∧ QHI w' N b S (mSet m k none) ∧ Chg N b W w' := by
  obtain ⟨h1, h2, p, h3, h4⟩ := h
  refine (removeI h3 hm).mono ?_
  rintro e w' ⟨he, h5, h6⟩
  exact ⟨he, ⟨h1, Nat.le_trans h2 h6.size, p, h5, h4⟩, h6.chg h2 h4⟩
theorem removeNoHI (h : QHI W N b S m) (k : Int) (hk : 0 ≤ k → m k.toNat = none) :
    Calls Try.prog 145 #[.pointer (some ⟨b, 0, none⟩), .int .i64 k] W fun e w' => e = .returned (.tuple #[.int .i64 0, .bool false]) ∧ w' = W := by
  obtain ⟨h1, h2, p, h3, h4⟩ := h
  exact removeNoI h3 k hk
theorem popHI (h : QHI W N b S m) {x : Nat × Int} (hx : FstI m x) :
    Calls Try.prog 146 #[.pointer (some ⟨b, 0, none⟩)] W fun e w' => e = .returned (.tuple #[.int .i64 (x.1 : Nat), Value.int .i64 x.2, .bool true]) ∧ QHI w' N b S (mSet m x.1 none) ∧ Chg N b W w' := by
  obtain ⟨h1, h2, p, h3, h4⟩ := h
  refine (popI h3 hx).mono ?_
  rintro e w' ⟨he, h5, h6⟩
  exact ⟨he, ⟨h1, Nat.le_trans h2 h6.size, p, h5, h4⟩, h6.chg h2 h4⟩
theorem popNoHI (h : QHI W N b S m) (hx : ∀ k, m k = none) :
    Calls Try.prog 146 #[.pointer (some ⟨b, 0, none⟩)] W fun e w' => e = .returned (.tuple #[.int .i64 0, .int .i64 0, .bool false]) ∧ Below W.heap.size W w' := by
  obtain ⟨h1, h2, p, h3, h4⟩ := h
  exact popNoI h3 hx
theorem peekHI (h : QHI W N b S m) {x : Nat × Int} (hx : FstI m x) :
    Calls Try.prog 143 #[.pointer (some ⟨b, 0, none⟩)] W fun e w' => e = .returned (.tuple #[.int .i64 (x.1 : Nat), Value.int .i64 x.2, .bool true]) ∧ Below W.heap.size W w' := by
  obtain ⟨h1, h2, p, h3, h4⟩ := h
  exact peekI h3 hx
theorem peekNoHI (h : QHI W N b S m) (hx : ∀ k, m k = none) :
    Calls Try.prog 143 #[.pointer (some ⟨b, 0, none⟩)] W fun e w' => e = .returned (.tuple #[.int .i64 0, .int .i64 0, .bool false]) ∧ Below W.heap.size W w' := by
  obtain ⟨h1, h2, p, h3, h4⟩ := h
  exact peekNoI h3 hx
theorem priorityHI (h : QHI W N b S m) {k : Nat} {v : Int} (hm : m k = some v) :
    Calls Try.prog 211 #[.pointer (some ⟨b, 0, none⟩), .int .i64 (k : Nat)] W fun e w' => e = .returned (.tuple #[Value.int .i64 v, .bool true]) ∧ w' = W := by
  obtain ⟨h1, h2, p, h3, h4⟩ := h
  exact priorityI h3 hm
theorem priorityNoHI (h : QHI W N b S m) (k : Int) (hk : 0 ≤ k → m k.toNat = none) :
    Calls Try.prog 211 #[.pointer (some ⟨b, 0, none⟩), .int .i64 k] W fun e w' => e = .returned (.tuple #[.int .i64 0, .bool false]) ∧ w' = W := by
  obtain ⟨h1, h2, p, h3, h4⟩ := h
  exact priorityNoI h3 k hk
theorem lenHI (h : QHI W N b S m) :
    Calls Try.prog 147 #[.pointer (some ⟨b, 0, none⟩)] W fun e w' => e = .returned (.int .i64 (cntQ S m : Nat)) ∧ w' = W := by
  obtain ⟨h1, h2, p, h3, h4⟩ := h
  exact lenI h3
end
end Go.Proofs.Ytbkdcafamdiliaa
