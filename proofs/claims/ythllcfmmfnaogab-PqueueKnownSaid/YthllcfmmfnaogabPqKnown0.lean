/- PqueueKnown: what its two queues hold. -/
import Derived.Test.YthllcfmmfnaogabPqPopU
import Derived.Test.YthllcfmmfnaogabPqPopF
namespace Go.Proofs.Ythllcfmmfnaogab
open Go Go.RowKit

/-- Behind i pushes. -/
def mP (i : Nat) : Nat → Option Int := fun k => if k < i then some ((255 - k % 256 : Nat) : Int) else none
/-- Behind i pops. -/
def mK (i : Nat) : Nat → Option Int := fun k => if k < 1024 ∧ i ≤ 4 * (255 - k % 256) + k / 256 then some ((255 - k % 256 : Nat) : Int) else none
def idK (i : Nat) : Nat := 256 * (i % 4) + 255 - i / 4

theorem mP_zero : mP 0 = fun _ => none := by funext k; simp [mP]
theorem mP_none (i : Nat) : mP i i = none := by simp [mP]
theorem mP_succ (i : Nat) : mSet (mP i) i (some ((255 - i % 256 : Nat) : Int)) = mP (i + 1) := by
  funext k
  unfold mSet mP
  by_cases h : k = i
  · subst h; rw [if_pos rfl, if_pos (by omega)]
  · rw [if_neg h]
    by_cases h2 : k < i
    · rw [if_pos h2, if_pos (by omega)]
    · rw [if_neg h2, if_neg (by omega)]
theorem mP_all : mP 1024 = mK 0 := by
  funext k
  unfold mP mK
  by_cases h : k < 1024
  · rw [if_pos h, if_pos ⟨h, by omega⟩]
  · rw [if_neg h, if_neg (fun e => h e.1)]
theorem mK_succ {i : Nat} (hi : i < 1024) : mSet (mK i) (idK i) none = mK (i + 1) := by
  funext k
  unfold mSet mK idK
  by_cases h : k = 256 * (i % 4) + 255 - i / 4
  · rw [if_pos h, if_neg (by omega)]
  · rw [if_neg h]
    by_cases h2 : k < 1024 ∧ i ≤ 4 * (255 - k % 256) + k / 256
    · rw [if_pos h2, if_pos ⟨h2.1, by omega⟩]
    · rw [if_neg h2, if_neg (fun e => h2 ⟨e.1, by omega⟩)]
theorem mK_first {i : Nat} (hi : i < 1024) : FstU (mK i) (idK i, ((i / 4 : Nat) : Int)) := by
  refine ⟨?_, fun k v hk => ?_⟩
  · show mK i (idK i) = some _
    unfold mK idK
    rw [if_pos ⟨by omega, by omega⟩]
    congr 2
    omega
  · unfold mK at hk
    split at hk
    · rename_i h
      cases hk
      unfold befQ ltI idK
      simp only [Bool.or_eq_false_iff, Bool.and_eq_false_iff, Bool.not_eq_false', decide_eq_false_iff_not, decide_eq_true_eq]
      refine ⟨by omega, ?_⟩
      by_cases e : 255 - k % 256 = i / 4
      · right; omega
      · left; omega
    · cases hk
theorem mK_done : ∀ k, mK 1024 k = none := fun k => by
  unfold mK
  rw [if_neg (by omega)]

/-- What the other queue holds. -/
def mFl (i : Nat) : Nat → Option Fl := fun k => if k < i then (if k = 0 then some .h else if k = 1 then some .m else some .q) else none
theorem mFl_zero : mFl 0 = fun _ => none := by funext k; simp [mFl]
theorem mFl_one : mSet (mFl 0) 0 (some .h) = mFl 1 := by funext k; unfold mSet mFl; by_cases h : k = 0 <;> simp [h]
theorem mFl_two : mSet (mFl 1) 1 (some .m) = mFl 2 := by
  funext k; unfold mSet mFl
  by_cases h : k = 1
  · subst h; rfl
  · by_cases h0 : k = 0
    · subst h0; rfl
    · rw [if_neg h, if_neg (by omega), if_neg (by omega)]
theorem mFl_three : mSet (mFl 2) 2 (some .q) = mFl 3 := by
  funext k; unfold mSet mFl
  by_cases h : k = 2
  · subst h; rfl
  · by_cases h0 : k < 2
    · have h3 : k < 3 := by omega
      simp [h, h0, h3]
    · have h3 : ¬ k < 3 := by omega
      simp [h, h0, h3]
theorem mFl_cases {k : Nat} {v : Fl} (h : mFl 3 k = some v) : (k = 0 ∧ v = .h) ∨ (k = 1 ∧ v = .m) ∨ (k = 2 ∧ v = .q) := by
  unfold mFl at h
  split at h
  · split at h
    · cases h; exact .inl ⟨by assumption, rfl⟩
    · split at h
      · cases h; exact .inr (.inl ⟨by assumption, rfl⟩)
      · cases h; exact .inr (.inr ⟨by omega, rfl⟩)
  · cases h
theorem mFl_first : FstF (mFl 3) (1, .m) := ⟨rfl, fun k v hk => by
  rcases mFl_cases hk with ⟨rfl, rfl⟩ | ⟨rfl, rfl⟩ | ⟨rfl, rfl⟩ <;> rfl⟩
theorem mFl_next : FstF (mSet (mFl 3) 1 none) (2, .q) := ⟨rfl, fun k v hk => by
  unfold mSet at hk
  split at hk
  · cases hk
  · rcases mFl_cases hk with ⟨rfl, rfl⟩ | ⟨rfl, rfl⟩ | ⟨rfl, rfl⟩
    · rfl
    · exact absurd rfl ‹_›
    · rfl⟩

/-- Both queues, apart in memory, behind B. -/
structure UF (w W : World) (B b br : Nat) (p pr : Option Addr) (m : Nat → Option Int) (mr : Nat → Option Fl) : Prop where
  u : PQU W 0 b p 1024 m
  f : PQF W 0 br pr 3 mr
  ne : b ≠ br
  a1 : ∀ a, p = some a → a.block ≠ br
  a2 : ∀ a, pr = some a → a.block ≠ b
  a3 : ∀ a a', p = some a → pr = some a' → a.block ≠ a'.block
  b1 : B ≤ b
  b2 : B ≤ br
  b3 : ∀ a, p = some a → B ≤ a.block
  b4 : ∀ a, pr = some a → B ≤ a.block
  low : Below B w W

theorem UF.below {w W W' : World} {B b br : Nat} {p pr : Option Addr} {m : Nat → Option Int} {mr : Nat → Option Fl} (h : UF w W B b br p pr m mr) (hb : Below W.heap.size W W') : UF w W' B b br p pr m mr :=
  ⟨h.u.below hb, h.f.below hb, h.ne, h.a1, h.a2, h.a3, h.b1, h.b2, h.b3, h.b4, h.low.trans (hb.mono (by have := h.b1; have := h.u.lt; omega))⟩

theorem UF.uStep {w W W' : World} {B b br : Nat} {p p' pr : Option Addr} {m m' : Nat → Option Int} {mr : Nat → Option Fl} (h : UF w W B b br p pr m mr) (hq : PQU W' 0 b p' 1024 m') (ht : Touch b p W W') (hh : Head p p' W.heap.size) : UF w W' B b br p' pr m' mr := by
  have hbW := h.u.lt
  have hfW := h.f.lt
  have hp : ∀ a, p' = some a → a.block ≠ br ∧ B ≤ a.block ∧ ∀ a0, pr = some a0 → a.block ≠ a0.block := fun a ha => by
    rcases hh a ha with ⟨a1, h1, h2⟩ | h1
    · rw [← h2]; exact ⟨h.a1 a1 h1, h.b3 a1 h1, fun a0 h0 => h.a3 a1 a0 h1 h0⟩
    · exact ⟨by omega, by have := h.b1; omega, fun a0 h0 => by have := (h.f.own h0).2.1; omega⟩
  exact ⟨hq, h.f.same ht.size (ht.block _ hfW (fun e => h.ne e.symm) (fun a ha e => h.a1 a ha e.symm)) (fun a ha => ht.block _ (h.f.own ha).2.1 (h.a2 a ha) (fun a0 h0 e => h.a3 a0 a h0 ha e.symm)), h.ne, fun a ha => (hp a ha).1, h.a2, fun a a' ha ha' => (hp a ha).2.2 a' ha', h.b1, h.b2, fun a ha => (hp a ha).2.1, h.b4, h.low.trans (ht.below h.b1 h.b3 (by have := h.b1; omega))⟩

theorem UF.fStep {w W W' : World} {B b br : Nat} {p pr pr' : Option Addr} {m : Nat → Option Int} {mr mr' : Nat → Option Fl} (h : UF w W B b br p pr m mr) (hq : PQF W' 0 br pr' 3 mr') (ht : Touch br pr W W') (hh : Head pr pr' W.heap.size) : UF w W' B b br p pr' m mr' := by
  have hbW := h.u.lt
  have hfW := h.f.lt
  have hp : ∀ a, pr' = some a → a.block ≠ b ∧ B ≤ a.block ∧ ∀ a0, p = some a0 → a0.block ≠ a.block := fun a ha => by
    rcases hh a ha with ⟨a1, h1, h2⟩ | h1
    · rw [← h2]; exact ⟨h.a2 a1 h1, h.b4 a1 h1, fun a0 h0 => h.a3 a0 a1 h0 h1⟩
    · exact ⟨by omega, by have := h.b1; omega, fun a0 h0 => by have := (h.u.own h0).2.1; omega⟩
  exact ⟨h.u.same ht.size (ht.block _ hbW h.ne (fun a ha e => h.a2 a ha e.symm)) (fun a ha => ht.block _ (h.u.own ha).2.1 (h.a1 a ha) (fun a0 h0 e => h.a3 a a0 ha h0 e)), hq, h.ne, h.a1, fun a ha => (hp a ha).1, fun a a' ha ha' => (hp a' ha').2.2 a ha, h.b1, h.b2, h.b3, fun a ha => (hp a ha).2.1, h.low.trans (ht.below h.b2 h.b4 (by have := h.b1; omega))⟩
end Go.Proofs.Ythllcfmmfnaogab
