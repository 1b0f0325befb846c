/- Two queues beside each other; ids in another order; how many are left. -/
import Derived.Test.YthllcfmmfnaogaaPqMade
namespace Go.Proofs.Ythllcfmmfnaogaa
open Go Go.RowKit

section
variable {α : Type}
theorem cntQ_pop (m : Nat → Option α) (k : Nat) {v : α} (hm : m k = some v) : ∀ S, k < S → cntQ S (mSet m k none) + 1 = cntQ S m := by
  intro S
  induction S with
  | zero => intro h; omega
  | succ S ih =>
    intro hk
    unfold cntQ at *
    rw [List.range_succ, List.countP_append, List.countP_append]
    by_cases e : k = S
    · subst e
      have : (List.range k).countP (fun i => (mSet m k none i).isSome) = (List.range k).countP (fun i => (m i).isSome) := by
        apply List.countP_congr
        intro i hi
        have := List.mem_range.1 hi
        simp [mSet, show ¬ i = k by omega]
      rw [this]
      simp [mSet, hm]
    · have := ih (by omega)
      have h2 : (List.countP (fun i => (mSet m k none i).isSome) [S]) = (List.countP (fun i => (m i).isSome) [S]) := by simp [mSet, show ¬ S = k by omega, List.countP_cons]
      rw [h2]
      omega

theorem cntQ_zero {m : Nat → Option α} {S : Nat} (h : ∀ k, m k = none) : cntQ S m = 0 := by
  unfold cntQ
  rw [List.countP_eq_zero]
  intro k _
  rw [h k]; simp
end

/-- How long the heap is that lies in block b. -/
def lenOf (W : World) (b : Nat) : Nat := match W.cell? ⟨b, 2, none⟩ with
  | some (.slice _ n _) => n
  | _ => 0

theorem PQS.lenOf {W : World} {base b S : Nat} {p : Option Addr} {m : Nat → Option ByteArray} (h : PQS W base b p S m) : lenOf W b = cntQ S m := by
  obtain ⟨c, l, T, h1, h2, h3, h4⟩ := h
  rw [← h4.cnt h2]
  simp [Go.Proofs.Ythllcfmmfnaogaa.lenOf, h1.heap]

/-- The ids in another order, one after the other. -/
def mrs (m : Nat → Option Nat) (n first : Nat) : Nat → (Nat → Option Nat)
  | 0 => fun _ => none
  | i + 1 => mSet (mrs m n first i) ((i + first) % n) (m ((i + first) % n))

theorem mod_add_lt {n t first : Nat} (hn : 0 < n) : (t + first) % n = (t % n + first % n) % n := Nat.add_mod _ _ _

theorem mod_cases {n t f : Nat} (ht : t < n) (hf : f < n) : (t + f) % n = if t + f < n then t + f else t + f - n := by
  split
  · exact Nat.mod_eq_of_lt (by assumption)
  · rw [Nat.mod_eq_sub_mod (by omega)]
    exact Nat.mod_eq_of_lt (by omega)

theorem mod_first {n t first : Nat} (ht : t < n) : (t + first) % n = (t + first % n) % n := by
  rw [Nat.add_mod, Nat.mod_eq_of_lt ht]

theorem mrs_get (m : Nat → Option Nat) (n first : Nat) (k : Nat) : ∀ i, (∃ t, t < i ∧ (t + first) % n = k) → mrs m n first i k = m k := by
  intro i
  induction i with
  | zero => rintro ⟨t, h, _⟩; omega
  | succ i ih =>
    rintro ⟨t, h1, h2⟩
    unfold mrs mSet
    by_cases e : k = (i + first) % n
    · rw [if_pos e, e]
    · rw [if_neg e]
      refine ih ⟨t, ?_, h2⟩
      by_cases e2 : t = i
      · subst e2; exact absurd h2.symm e
      · omega
theorem mrs_not (m : Nat → Option Nat) (n first : Nat) (k : Nat) : ∀ i, (∀ t, t < i → (t + first) % n ≠ k) → mrs m n first i k = none := by
  intro i
  induction i with
  | zero => intro _; rfl
  | succ i ih =>
    intro h
    unfold mrs mSet
    rw [if_neg (fun e => h i (by omega) e.symm)]
    exact ih fun t ht => h t (by omega)
theorem mrs_fresh (m : Nat → Option Nat) {n first i : Nat} (hi : i < n) : mrs m n first i ((i + first) % n) = none := by
  refine mrs_not m n first _ i fun t ht e => ?_
  have hf : first % n < n := Nat.mod_lt _ (by omega)
  rw [mod_first hi, mod_first (show t < n by omega), mod_cases hi hf, mod_cases (show t < n by omega) hf] at e
  split at e <;> split at e <;> omega
theorem mrs_all {m : Nat → Option Nat} {n first : Nat} (hn : 0 < n) (hl : ∀ k, n ≤ k → m k = none) : mrs m n first n = m := by
  funext k
  by_cases hk : k < n
  · have hf : first % n < n := Nat.mod_lt _ hn
    apply mrs_get
    by_cases h : first % n ≤ k
    · refine ⟨k - first % n, by omega, ?_⟩
      rw [mod_first (by omega), mod_cases (by omega) hf]
      split <;> omega
    · refine ⟨k + n - first % n, by omega, ?_⟩
      rw [mod_first (by omega), mod_cases (by omega) hf]
      split <;> omega
  · rw [hl k (by omega)]
    exact mrs_not m n first k n fun t ht e => by
      have : (t + first) % n < n := Nat.mod_lt _ hn
      omega

/-- Two queues with the same ids, apart in memory, both behind B. -/
structure Two (w W : World) (B b br n : Nat) (p pr : Option Addr) (m mr : Nat → Option ByteArray) : Prop where
  q : PQS W 0 b p n m
  r : PQS W 0 br pr n mr
  ne : b ≠ br
  a1 : ∀ a, p = some a → a.block ≠ br
  a2 : ∀ a, pr = some a → a.block ≠ b
  a3 : ∀ a a', p = some a → pr = some a' → a.block ≠ a'.block
  b1 : B ≤ b
  b2 : B ≤ br
  b3 : ∀ a, p = some a → B ≤ a.block
  b4 : ∀ a, pr = some a → B ≤ a.block
  low : Below B w W

theorem Two.below {w W W' : World} {B b br n : Nat} {p pr : Option Addr} {m mr : Nat → Option ByteArray} (h : Two w W B b br n p pr m mr) (hb : Below W.heap.size W W') : Two w W' B b br n p pr m mr :=
  ⟨h.q.below hb, h.r.below hb, h.ne, h.a1, h.a2, h.a3, h.b1, h.b2, h.b3, h.b4, h.low.trans (hb.mono (by have := h.b1; have := h.q.lt; omega))⟩

theorem Two.left {w W W' : World} {B b br n : Nat} {p pr : Option Addr} {m m' mr : Nat → Option ByteArray} (h : Two w W B b br n p pr m mr) (hq : PQS W' 0 b p n m') (ht : Touch b p W W') : Two w W' B b br n p pr m' mr :=
  ⟨hq, h.r.same ht.size (ht.block _ h.r.lt (fun e => h.ne e.symm) (fun a ha e => h.a1 a ha e.symm)) (fun a ha => ht.block _ (h.r.own ha).2.1 (h.a2 a ha) (fun a0 h0 e => h.a3 a0 a h0 ha e.symm)), h.ne, h.a1, h.a2, h.a3, h.b1, h.b2, h.b3, h.b4,
    h.low.trans (ht.below h.b1 h.b3 (by have := h.b1; have := h.q.lt; omega))⟩

theorem Two.swap {w W : World} {B b br n : Nat} {p pr : Option Addr} {m mr : Nat → Option ByteArray} (h : Two w W B b br n p pr m mr) : Two w W B br b n pr p mr m :=
  ⟨h.r, h.q, fun e => h.ne e.symm, h.a2, h.a1, fun a a' h1 h2 e => h.a3 a' a h2 h1 e.symm, h.b2, h.b1, h.b4, h.b3, h.low⟩

theorem Two.right {w W W' : World} {B b br n : Nat} {p pr : Option Addr} {m mr mr' : Nat → Option ByteArray} (h : Two w W B b br n p pr m mr) (hq : PQS W' 0 br pr n mr') (ht : Touch br pr W W') : Two w W' B b br n p pr m mr' :=
  (h.swap.left hq ht).swap
end Go.Proofs.Ythllcfmmfnaogaa
