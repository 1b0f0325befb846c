/- Range over a function whose iterator writes blocks that it made itself: the loop's law. -/
import Derived.Test.YtejkbanecbjdoaaOmRange
import Derived.RangeFuncWrites
namespace Go.Proofs.Ytejkbanecbjdoaa
open Go Go.RowKit

/-- A step that turns nothing that lay, but for the blocks from lo up to hi. -/
structure OwnStep (lo hi : Nat) (A C : World) : Prop where
  os : C.os = A.os
  tape : C.tape = A.tape
  output : C.output = A.output
  size : A.heap.size ≤ C.heap.size
  block : ∀ k, k < A.heap.size → (k < lo ∨ hi ≤ k) → C.heap[k]? = A.heap[k]?

theorem OwnStep.refl (lo hi : Nat) (A : World) : OwnStep lo hi A A := ⟨rfl, rfl, rfl, Nat.le_refl _, fun _ _ _ => rfl⟩
theorem OwnStep.trans {lo hi : Nat} {A B C : World} (h : OwnStep lo hi A B) (k : OwnStep lo hi B C) : OwnStep lo hi A C :=
  ⟨k.os.trans h.os, k.tape.trans h.tape, k.output.trans h.output, Nat.le_trans h.size k.size, fun i hi hb => (k.block i (Nat.lt_of_lt_of_le hi h.size) hb).trans (h.block i hi hb)⟩
theorem OwnStep.of_below {lo hi : Nat} {A C : World} (h : Below A.heap.size A C) : OwnStep lo hi A C := ⟨h.os, h.tape, h.output, h.size, fun k hk _ => h.block k hk⟩
theorem OwnStep.widen {lo lo' hi hi' : Nat} {A C : World} (h : OwnStep lo hi A C) (h1 : lo' ≤ lo) (h2 : hi ≤ hi') : OwnStep lo' hi' A C :=
  ⟨h.os, h.tape, h.output, h.size, fun k hk hb => h.block k hk (by omega)⟩
/-- Below what the step may turn. -/
theorem OwnStep.below {lo hi : Nat} {A C : World} (h : OwnStep lo hi A C) (hl : lo ≤ A.heap.size) : Below lo A C := ⟨h.os, h.tape, h.output, h.size, fun k hk => h.block k (by omega) (.inl hk)⟩
theorem OwnStep.putObj {lo hi : Nat} (A : World) {l : Nat} {o : Obj} (o' : Obj) (h : A.heap[l]? = some o) (h1 : lo ≤ l) (h2 : l < hi) : OwnStep lo hi A (A.putObj l o') :=
  ⟨rfl, rfl, rfl, by simp, fun k hk hb => World.putObj_heap_other (by omega)⟩

/-- What the body of a round keeps for the iterator: the blocks from lo up to hi. -/
structure KeepsIn (lo hi : Nat) (A C : World) : Prop where
  os : C.os = A.os
  size : A.heap.size ≤ C.heap.size
  block : ∀ k, lo ≤ k → k < hi → k < A.heap.size → C.heap[k]? = A.heap[k]?

theorem KeepsIn.refl (lo hi : Nat) (A : World) : KeepsIn lo hi A A := ⟨rfl, Nat.le_refl _, fun _ _ _ _ => rfl⟩
theorem KeepsIn.trans {lo hi : Nat} {A B C : World} (h : KeepsIn lo hi A B) (k : KeepsIn lo hi B C) : KeepsIn lo hi A C :=
  ⟨k.os.trans h.os, Nat.le_trans h.size k.size, fun i h1 h2 h3 => (k.block i h1 h2 (Nat.lt_of_lt_of_le h3 h.size)).trans (h.block i h1 h2 h3)⟩
theorem KeepsIn.of_below {lo hi : Nat} {A C : World} (h : Below A.heap.size A C) : KeepsIn lo hi A C := ⟨h.os, h.size, fun k _ _ h3 => h.block k h3⟩
theorem KeepsIn.narrow {lo lo' hi : Nat} {A C : World} (h : KeepsIn lo hi A C) (h1 : lo ≤ lo') : KeepsIn lo' hi A C := ⟨h.os, h.size, fun k h2 h3 h4 => h.block k (by omega) h3 h4⟩
/-- One block below lo, or from hi on, is turned. -/
theorem KeepsIn.of_grownBy {lo hi : Nat} {A C : World} {row : Option Nat} (hg : A.grownBy C row) (hr : ∀ r, row = some r → r < lo ∨ hi ≤ r) : KeepsIn lo hi A C :=
  ⟨hg.os, hg.size, fun k h1 h2 h3 => hg.block k h3 (fun e => by have := hr k e.symm; omega)⟩

/-- What an iterator with blocks of its own promises: whatever the caller's relation J is, as long as it abides what turns those blocks alone. -/
def SeqOwn {α : Type} (F : Fence) (n : Nat) (P : Program) (gf : Nat) (lb : Array Value) (encs : α → Array Value) (S Sp : List α → Prop) (N : Nat) (w0 : World) : Prop :=
  ∀ (l : Nat) (J Jx : Nat → List α → World → Prop) (W : World), Below w0.heap.size w0 W →
    (∀ hi s A C, J hi s A → W.heap.size ≤ hi → OwnStep W.heap.size hi A C → J hi s C) →
    (∀ hi s A C, Jx hi s A → W.heap.size ≤ hi → OwnStep W.heap.size hi A C → Jx hi s C) →
    (∀ hi pre x A, W.heap.size ≤ hi → J hi pre A → pre.length < N → YieldAt F (n - 1) P l (encs x) A fun e A' => (e = .returned (.bool true) ∧ J hi (pre ++ [x]) A' ∧ KeepsIn W.heap.size hi A A') ∨ (e = .returned (.bool false) ∧ Jx hi (pre ++ [x]) A')) →
    (∀ A, Below W.heap.size W A → J A.heap.size [] A) →
    CallsIn F n P gf (#[.func (.yield l) #[] #[]] ++ lb) W fun e W' => (∃ v, e = .returned v) ∧ ∃ hi, W.heap.size ≤ hi ∧ ((∃ xs, S xs ∧ J hi xs W') ∨ (∃ pre, Sp pre ∧ Jx hi pre W'))

/-- How the body of a round may be left. -/
def ownPostI {α : Type} (lo hi : Nat) (I : List α → World → Prop) (Ix : Code → List α → World → Prop) (xs : List α) (W : World) : Exit → Act → World → Prop
  | .normal, _, W' => KeepsIn lo hi W W' ∧ I xs W'
  | .ret, _, W' => KeepsIn lo hi W W' ∧ Ix .ret xs W'
  | .exit id, _, W' => KeepsIn lo hi W W' ∧ Ix (.exit id) xs W'
  | .goto t, _, W' => KeepsIn lo hi W W' ∧ Ix (.goto t) xs W'
  | .panic _, _, _ => False
  | .outgrown, _, _ => False

/-- The loop's law over an iterator with blocks of its own; the temporaries behind the assignment told as a turn of those ahead. -/
theorem rangeOwn {F : Fence} {n : Nat} {P : Program} {α : Type} {g : Operand} {ps : Array Tmp} {assign body : Code} {Q : Exit → Act → World → Prop} {T : Array Value} {ds : List Deferred} {w : World} (md : α → Array Value → Array Value)
    (hro : F.round = none) (h1 : 1 ≤ n) {gf : Nat} {lb : Array Value} (hg : ({ tmps := T, defers := ds } : Act).eval g = .func (.func gf) #[] lb) (hFg : F.fn gf) (eg : ∀ args w, (callFunc gf args).run P w = .ok (.enter gf args) w)
    {encs : α → Array Value} {S Sp : List α → Prop} {N : Nat} {w0 : World} (hseq : SeqOwn F (n - 1) P gf lb encs S Sp N w0) (hb0 : Below w0.heap.size w0 w) (hps : ∀ x, (encs x).size = ps.size)
    (I : Nat → List α → World → Prop) (Ix : Nat → Code → List α → World → Prop)
    (hI : ∀ hi s A C, I hi s A → w.heap.size + 2 ≤ hi → OwnStep w.heap.size hi A C → I hi s C)
    (hIx : ∀ hi c s A C, Ix hi c s A → w.heap.size + 2 ≤ hi → OwnStep w.heap.size hi A C → Ix hi c s C)
    (h0 : ∀ A, Below w.heap.size w A → w.heap.size + 2 ≤ A.heap.size → I A.heap.size [] A)
    (hassign : ∀ (l : Nat) (x : α) (W : World) (K : Act → World → Prop), K { tmps := md x T, defers := [] } W →
      assign.wpIn (F.inRound l) (n - 1 - 1) P (Exit.then K (fun _ _ _ => False)) { tmps := (ps.zip (encs x)).foldl (fun t (p, v) => t.setIfInBounds p v) T, defers := [] } W)
    (hbody : ∀ (l hi : Nat) (pre : List α) (x : α) (W : World), w.heap.size + 2 ≤ hi → I hi pre W → pre.length < N → body.wpIn (F.inRound l) (n - 1 - 1) P (ownPostI w.heap.size hi (I hi) (Ix hi) (pre ++ [x]) W) { tmps := md x T, defers := [] } W)
    (hdone : ∀ (D hi : Nat) (xs : List α) (W : World), w.heap.size ≤ D → D + 2 ≤ hi → S xs → I hi xs W → W.heap[D]? = some (.deferred (some [])) → Q .normal { tmps := T, defers := { target := .collected D, args := #[] } :: ds } W)
    (hstop : ∀ (D hi : Nat) (c : Code) (pre : List α) (W : World), w.heap.size ≤ D → D + 2 ≤ hi → Sp pre → Ix hi c pre W → W.heap[D]? = some (.deferred (some [])) → c.wpIn F n P Q { tmps := T, defers := { target := .collected D, args := #[] } :: ds } W) :
    (Code.rangeFunc g ps assign body).wpIn F n P Q { tmps := T, defers := ds } w := by
  refine wpIn_rangeFunc ?_
  intro fn hfn
  rw [hro]
  obtain ⟨rec, hrec⟩ : ∃ rec : LoopState → Option Code → Loop, rec = fun st pe => { state := st, pending := pe, fn, tmps := T, params := ps, assign, body, defers := w.heap.size } := ⟨_, rfl⟩
  obtain ⟨W1, hW1⟩ : ∃ W1, (w.alloc (.deferred (some []))).alloc (.loop (rec .ready none)) = W1 := ⟨_, rfl⟩
  have hL1 : W1.heap[w.heap.size + 1]? = some (.loop (rec .ready none)) := by
    rw [← hW1]; have := World.alloc_heap_new (w.alloc (.deferred (some []))) (.loop (rec .ready none)); rwa [World.size_alloc] at this
  have hK1 : W1.heap[w.heap.size]? = some (.deferred (some [])) := by
    rw [← hW1]; exact (Below.heap_alloc _ _ _ (by simp)).trans (World.alloc_heap_new w _)
  have hS1 : W1.heap.size = w.heap.size + 2 := by rw [← hW1]; simp
  have hbw : Below w.heap.size w W1 := by
    rw [← hW1]; exact ((Below.refl _ w).alloc (Nat.le_refl _) _).alloc (by simp) _
  have hb1 : Below w0.heap.size w0 W1 := hb0.trans (hbw.mono hb0.size)
  refine ⟨w.heap.size + 1, [{ target := .collected w.heap.size, args := #[] }], W1, { target := .fn (.func gf) lb, args := #[.func (.yield (w.heap.size + 1)) #[] #[]] }, W1, gf,
    #[.func (.yield (w.heap.size + 1)) #[] #[]] ++ lb, W1, ?_, ?_, ?_, ?_, fun _ => h1, ?_⟩
  · rw [← hW1, hrec]; exact run_enterLoop_outer _ _ _ _ _
  · simp only [resolve, hg]
    simp [go_sem]
  · intro f' hf'; simp [Target.leads] at hf'; subst hf'; exact hFg
  · simp [invoke, go_sem, eg]
  · refine (hseq (w.heap.size + 1)
      (fun hi pre W => I hi pre W ∧ W.heap[w.heap.size + 1]? = some (.loop (rec .ready none)) ∧ W.heap[w.heap.size]? = some (.deferred (some [])))
      (fun hi pre W => ∃ c, Ix hi c pre W ∧ W.heap[w.heap.size + 1]? = some (.loop (rec .done (some c))) ∧ W.heap[w.heap.size]? = some (.deferred (some [])))
      W1 hb1
      (fun hi s A C hs hhi hg' => ⟨hI hi s A C hs.1 (by omega) (hg'.widen (by omega) (Nat.le_refl _)), (hg'.block _ (Array.getElem?_eq_some_iff.1 hs.2.1).1 (.inl (by omega))).trans hs.2.1, (hg'.block _ (Array.getElem?_eq_some_iff.1 hs.2.2).1 (.inl (by omega))).trans hs.2.2⟩)
      (fun hi s A C hs hhi hg' => by
        obtain ⟨c, hc, hl, hk⟩ := hs
        exact ⟨c, hIx hi c s A C hc (by omega) (hg'.widen (by omega) (Nat.le_refl _)), (hg'.block _ (Array.getElem?_eq_some_iff.1 hl).1 (.inl (by omega))).trans hl, (hg'.block _ (Array.getElem?_eq_some_iff.1 hk).1 (.inl (by omega))).trans hk⟩)
      ?_ (fun A hA => ⟨h0 A (hbw.trans (hA.mono (by omega))) (by have := hA.size; omega), (hA.block _ (by omega)).trans hL1, (hA.block _ (by omega)).trans hK1⟩)).mono ?_
    · -- one round
      rintro hi pre x W hhi ⟨hi0, hl, hk⟩ hlen
      have hhi2 : w.heap.size + 2 ≤ hi := by omega
      have hlt : w.heap.size + 1 < W.heap.size := (Array.getElem?_eq_some_iff.1 hl).1
      have hy := run_yield (P := P) (args := encs x) hl (by rw [hrec]; exact hps x)
      rw [hrec] at hy
      refine ⟨fn, _, assign, body, hy, roundIn_of_wpIn hfn (hassign _ x W _ ⟨_, run_beginRound hl (by rw [hrec]), ?_⟩)⟩
      have hl2 : (W.putObj (w.heap.size + 1) (.loop { rec .ready none with state := .busy })).heap[w.heap.size + 1]? = some (.loop { rec .ready none with state := .busy }) := World.putObj_heap_same hlt
      have hk2 : (W.putObj (w.heap.size + 1) (.loop { rec .ready none with state := .busy })).heap[w.heap.size]? = some (.deferred (some [])) := (World.putObj_heap_other (by omega)).trans hk
      have hput : ∀ (X : World) (o o' : Obj), X.heap[w.heap.size + 1]? = some o → KeepsIn (w.heap.size + 2) hi X (X.putObj (w.heap.size + 1) o') := fun X o o' _ => ⟨rfl, by simp, fun k h1 h2 h3 => World.putObj_heap_other (by omega)⟩
      refine wpIn_mono (hbody _ hi pre x _ hhi2 (hI hi _ _ _ hi0 hhi2 (OwnStep.putObj _ _ hl (by omega) (by omega))) hlen) ?_
      have fin : ∀ (jump : Option Code) (W3 : World), KeepsIn w.heap.size hi (W.putObj (w.heap.size + 1) (.loop { rec .ready none with state := .busy })) W3 →
          (Instr.endRound (w.heap.size + 1) jump).run P W3 = .ok (.bool jump.isNone) (W3.putObj (w.heap.size + 1) (.loop (rec (if jump.isNone then .ready else .done) jump))) ∧
          W3.heap[w.heap.size + 1]? = some (.loop { rec .ready none with state := .busy }) ∧
          (W3.putObj (w.heap.size + 1) (.loop (rec (if jump.isNone then .ready else .done) jump))).heap[w.heap.size + 1]? = some (.loop (rec (if jump.isNone then .ready else .done) jump)) ∧
          (W3.putObj (w.heap.size + 1) (.loop (rec (if jump.isNone then .ready else .done) jump))).heap[w.heap.size]? = some (.deferred (some [])) := fun jump W3 hk3 => by
        have hl3 := (hk3.block _ (by omega) (by omega) (Array.getElem?_eq_some_iff.1 hl2).1).trans hl2
        have := run_endRound (P := P) jump hl3
        rw [hrec] at this ⊢
        exact ⟨this, by rw [hrec] at hl3; exact hl3, World.putObj_heap_same (Array.getElem?_eq_some_iff.1 hl3).1, (World.putObj_heap_other (by omega)).trans ((hk3.block _ (Nat.le_refl _) (by omega) (Array.getElem?_eq_some_iff.1 hk2).1).trans hk2)⟩
      rintro e a3 W3 hp
      cases e with
      | normal =>
        obtain ⟨hk3, hi3⟩ := hp
        obtain ⟨hr, hl3, hl4, hk4⟩ := fin none W3 hk3
        refine ⟨_, _, hr, .inl ⟨rfl, ⟨hI hi _ _ _ hi3 hhi2 (OwnStep.putObj _ _ hl3 (by omega) (by omega)), hl4, hk4⟩, ?_⟩⟩
        rw [hS1]
        exact ((hput W _ _ hl).trans (hk3.narrow (by omega))).trans (hput W3 _ _ hl3)
      | ret =>
        obtain ⟨hk3, hi3⟩ := hp
        obtain ⟨hr, hl3, hl4, hk4⟩ := fin (some .ret) W3 hk3
        exact ⟨_, _, hr, .inr ⟨rfl, .ret, hIx hi _ _ _ _ hi3 hhi2 (OwnStep.putObj _ _ hl3 (by omega) (by omega)), hl4, hk4⟩⟩
      | exit id =>
        obtain ⟨hk3, hi3⟩ := hp
        obtain ⟨hr, hl3, hl4, hk4⟩ := fin (some (.exit id)) W3 hk3
        exact ⟨_, _, hr, .inr ⟨rfl, .exit id, hIx hi _ _ _ _ hi3 hhi2 (OwnStep.putObj _ _ hl3 (by omega) (by omega)), hl4, hk4⟩⟩
      | goto t =>
        obtain ⟨hk3, hi3⟩ := hp
        obtain ⟨hr, hl3, hl4, hk4⟩ := fin (some (.goto t)) W3 hk3
        exact ⟨_, _, hr, .inr ⟨rfl, .goto t, hIx hi _ _ _ _ hi3 hhi2 (OwnStep.putObj _ _ hl3 (by omega) (by omega)), hl4, hk4⟩⟩
      | panic ch => exact hp.elim
      | outgrown => exact hp.elim
    · -- behind the iterator
      rintro e W2 ⟨⟨v, rfl⟩, hi, hhi, (⟨xs, hS, hi0, hl, hk⟩ | ⟨pre, hSp, c, hi0, hl, hk⟩)⟩
      · exact ⟨none, _, by have := run_endLoop (P := P) hl (by rw [hrec]; simp); rw [hrec] at this; exact this, hdone _ hi xs _ (Nat.le_refl _) (by omega) hS (hI hi _ _ _ hi0 (by omega) (OwnStep.putObj _ _ hl (by omega) (by omega))) ((World.putObj_heap_other (by omega)).trans hk)⟩
      · exact ⟨some c, _, by have := run_endLoop (P := P) hl (by rw [hrec]; simp); rw [hrec] at this; exact this, hstop _ hi c pre _ (Nat.le_refl _) (by omega) hSp (hIx hi _ _ _ _ hi0 (by omega) (OwnStep.putObj _ _ hl (by omega) (by omega))) ((World.putObj_heap_other (by omega)).trans hk)⟩
end Go.Proofs.Ytejkbanecbjdoaa
