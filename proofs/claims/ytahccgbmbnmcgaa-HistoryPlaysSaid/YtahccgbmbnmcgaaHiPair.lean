/- HistoryPlays: a list and the document's list that holds the same, side by side; the calls on both. -/
import Derived.Test.YtahccgbmbnmcgaaHiShows
namespace Go.Proofs.Ytahccgbmbnmcgaa
open Go Go.RowKit

/-- The blocks of F are as they were. -/
structure Kp (F : Nat → Prop) (W W' : World) : Prop where
  os : W'.os = W.os
  tape : W'.tape = W.tape
  output : W'.output = W.output
  size : W.heap.size ≤ W'.heap.size
  block : ∀ k, k < W.heap.size → F k → W'.heap[k]? = W.heap[k]?

theorem Kp.trans {F : Nat → Prop} {A B C : World} (h : Kp F A B) (k : Kp F B C) : Kp F A C :=
  ⟨k.os.trans h.os, k.tape.trans h.tape, k.output.trans h.output, Nat.le_trans h.size k.size, fun j hj hF => (k.block j (by have := h.size; omega) hF).trans (h.block j hj hF)⟩
theorem Kp.of_below {F : Nat → Prop} {A B : World} (h : Below A.heap.size A B) : Kp F A B := ⟨h.os, h.tape, h.output, h.size, fun k hk _ => h.block k hk⟩
theorem Kp.weak {F G : Nat → Prop} {A B : World} (h : Kp F A B) (hFG : ∀ k, G k → F k) : Kp G A B := ⟨h.os, h.tape, h.output, h.size, fun k hk hG => h.block k hk (hFG k hG)⟩
theorem Kp.below {F : Nat → Prop} {A B : World} {N : Nat} (h : Kp F A B) (hF : ∀ k, k < N → F k) (hN : N ≤ A.heap.size) : Below N A B := ⟨h.os, h.tape, h.output, h.size, fun k hk => h.block k (by omega) (hF k hk)⟩

/-- Block k is the list's head or its row. -/
def Fp (b : Nat) (p : Option Addr) (k : Nat) : Prop := k = b ∨ ∃ a, p = some a ∧ a.block = k

theorem Kp.touch {F : Nat → Prop} {b : Nat} {p : Option Addr} {W W' : World} (h : Touch b p W W') (hF : ∀ k, Fp b p k → ¬ F k) : Kp F W W' :=
  ⟨h.os, h.tape, h.output, h.size, fun k hk hFk => h.block k hk (fun e => hF k (.inl e) hFk) (fun a ha e => hF k (.inr ⟨a, ha, e.symm⟩) hFk)⟩

/-- A list and the document's list that holds the same, apart from one another and from the blocks of F. -/
structure Two (F : Nat → Prop) (W : World) (b : Nat) (p : Option Addr) (c b2 : Nat) (p2 : Option Addr) (c2 lim m : Nat) (l : List ByteArray) : Prop where
  hl : HLS W b p c lim m l
  rl : RL W b2 p2 c2 lim m l
  apart : ∀ k, Fp b p k → ¬ Fp b2 p2 k
  free : ∀ k, Fp b p k ∨ Fp b2 p2 k → ¬ F k

section
variable {F : Nat → Prop} {W w' w'' : World} {b b2 : Nat} {p p2 p' p2' : Option Addr} {c c2 c' c2' lim m m' : Nat} {l l' : List ByteArray}

theorem Two.lt (h : Two F W b p c b2 p2 c2 lim m l) {k : Nat} (hk : Fp b p k ∨ Fp b2 p2 k) : k < W.heap.size := by
  rcases hk with (rfl | ⟨a, ha, rfl⟩) | (rfl | ⟨a, ha, rfl⟩)
  · exact h.hl.lt
  · exact h.hl.own ha
  · exact h.rl.lt
  · exact h.rl.own ha

theorem Two.keep (h : Two F W b p c b2 p2 c2 lim m l) {G : Nat → Prop} (hk : Kp G W w') (hG : ∀ k, Fp b p k ∨ Fp b2 p2 k → G k) : Two F w' b p c b2 p2 c2 lim m l :=
  ⟨h.hl.same (hk.block b h.hl.lt (hG b (.inl (.inl rfl)))) (fun a ha => hk.block _ (h.hl.own ha) (hG _ (.inl (.inr ⟨a, ha, rfl⟩)))),
    h.rl.same (hk.block b2 h.rl.lt (hG b2 (.inr (.inl rfl)))) (fun a ha => hk.block _ (h.rl.own ha) (hG _ (.inr (.inr ⟨a, ha, rfl⟩)))), h.apart, h.free⟩

theorem Two.below (h : Two F W b p c b2 p2 c2 lim m l) (hb : Below W.heap.size W w') : Two F w' b p c b2 p2 c2 lim m l :=
  ⟨h.hl.below hb, h.rl.below hb, h.apart, h.free⟩

theorem Two.weak (h : Two F W b p c b2 p2 c2 lim m l) {G : Nat → Prop} (hG : ∀ k, k < W.heap.size → G k → F k) : Two G W b p c b2 p2 c2 lim m l :=
  ⟨h.hl, h.rl, h.apart, fun k hk hGk => h.free k hk (hG k (h.lt hk) hGk)⟩

/-- While the list alone has changed, the document's is as it was. -/
theorem Two.mid (h : Two F W b p c b2 p2 c2 lim m l) (hT : Touch b p W w') : RL w' b2 p2 c2 lim m l := by
  have hk : Kp (Fp b2 p2) W w' := Kp.touch hT h.apart
  exact h.rl.same (hk.block b2 h.rl.lt (.inl rfl)) (fun a ha => hk.block _ (h.rl.own ha) (.inr ⟨a, ha, rfl⟩))

theorem Two.step (h : Two F W b p c b2 p2 c2 lim m l) (hF : ∀ k, F k → k < W.heap.size) (hL : HLS w' b p' c' lim m' l') (hT : Touch b p W w') (hH : Head p p' W.heap.size)
    (hR : RL w'' b2 p2' c2' lim m' l') (hT2 : Touch b2 none w' w'') (hp2 : (∀ a, p2' = some a → w'.heap.size ≤ a.block) ∨ p2' = p2) : Two F w'' b p' c' b2 p2' c2' lim m' l' ∧ Kp F W w'' := by
  have hb2 : ∀ k, Fp b p' k → k ≠ b2 := fun k hk e => by
    rcases hk with rfl | ⟨a, ha, rfl⟩
    · exact h.apart k (.inl rfl) (.inl e)
    · rcases hH a ha with ⟨a0, h0, h1⟩ | h1
      · exact h.apart a.block (.inr ⟨a0, h0, h1⟩) (.inl e)
      · have := h.rl.lt; omega
  have hlt : ∀ k, Fp b p' k → k < w'.heap.size := fun k hk => by
    rcases hk with rfl | ⟨a, ha, rfl⟩
    · exact hL.lt
    · exact hL.own ha
  have hk2 : Kp (Fp b p') w' w'' := ⟨hT2.os, hT2.tape, hT2.output, hT2.size, fun k hk hFk => hT2.block k hk (hb2 k hFk) (fun a ha => by cases ha)⟩
  have hk1 : Kp F W w' := Kp.touch hT (fun k hk => h.free k (.inl hk))
  refine ⟨⟨hL.same (hk2.block b hL.lt (.inl rfl)) (fun a ha => hk2.block _ (hL.own ha) (.inr ⟨a, ha, rfl⟩)), hR, ?_, ?_⟩, hk1.trans ⟨hT2.os, hT2.tape, hT2.output, hT2.size, fun k hk hFk => hT2.block k hk (fun e => h.free k (.inr (.inl e)) hFk) (fun a ha => by cases ha)⟩⟩
  · intro k hk hk'
    rcases hk' with e | ⟨a, ha, e⟩
    · exact hb2 k hk e
    · rcases hp2 with hp2 | rfl
      · have := hp2 a ha
        have := hlt k hk
        omega
      · rcases hk with rfl | ⟨a', ha', rfl⟩
        · exact h.apart k (.inl rfl) (.inr ⟨a, ha, e⟩)
        · rcases hH a' ha' with ⟨a0, h0, h1⟩ | h1
          · exact h.apart a'.block (.inr ⟨a0, h0, h1⟩) (.inr ⟨a, ha, e⟩)
          · have := h.rl.own ha; omega
  · intro k hk hFk
    rcases hk with (e | ⟨a, ha, e⟩) | (e | ⟨a, ha, e⟩)
    · exact h.free k (.inl (.inl e)) hFk
    · rcases hH a ha with ⟨a0, h0, h1⟩ | h1
      · exact h.free k (.inl (.inr ⟨a0, h0, h1.trans e⟩)) hFk
      · have := hF k hFk; omega
    · exact h.free k (.inr (.inl e)) hFk
    · rcases hp2 with hp2 | rfl
      · have := hp2 a ha
        have := hF k hFk
        have := hT.size
        omega
      · exact h.free k (.inr (.inr ⟨a, ha, e⟩)) hFk
end
end Go.Proofs.Ytahccgbmbnmcgaa
