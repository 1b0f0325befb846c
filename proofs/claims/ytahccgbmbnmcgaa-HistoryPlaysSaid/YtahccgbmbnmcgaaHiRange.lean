/- Range over a function whose iterator has blocks of its own and reads others: the loop's law, the things told by their numbers. -/
import Derived.Test.YtahccgbmbnmcgaaPqRange
namespace Go.Proofs.Ytahccgbmbnmcgaa
open Go Go.RowKit

/-- What such an iterator promises, of N things: whatever the caller's relation J is, as long as it abides what turns the iterator's own blocks alone, and tells what the iterator reads. -/
def SeqIdx (F : Fence) (n : Nat) (P : Program) (gf : Nat) (lb : Array Value) (encs : Nat → Array Value) (Qp : World → Prop) (N : Nat) (w0 : World) : Prop :=
  ∀ (l : Nat) (J Jx : Nat → Nat → World → Prop) (W : World), Below w0.heap.size w0 W →
    (∀ hi s A C, J hi s A → W.heap.size ≤ hi → OwnStep W.heap.size hi A C → J hi s C) →
    (∀ hi s A C, Jx hi s A → W.heap.size ≤ hi → OwnStep W.heap.size hi A C → Jx hi s C) →
    (∀ hi s A, J hi s A → Qp A) →
    (∀ hi x A, W.heap.size ≤ hi → J hi x A → x < N → YieldAt F (n - 1) P l (encs x) A fun e A' => (e = .returned (.bool true) ∧ J hi (x + 1) A' ∧ KeepsIn W.heap.size hi A A') ∨ (e = .returned (.bool false) ∧ Jx hi (x + 1) A' ∧ KeepsIn W.heap.size hi A A')) →
    (∀ A, Below W.heap.size W A → J A.heap.size 0 A) →
    CallsIn F n P gf (#[.func (.yield l) #[] #[]] ++ lb) W fun e W' => (∃ v, e = .returned v) ∧ ∃ hi, W.heap.size ≤ hi ∧ (J hi N W' ∨ ∃ k, k ≤ N ∧ Jx hi k W')

/-- How the body of a round may be left. -/
def outI (lo hi : Nat) (I : World → Prop) (Ix : Code → World → Prop) (W : World) : Exit → Act → World → Prop
  | .normal, _, W' => KeepsIn lo hi W W' ∧ I W'
  | .ret, _, W' => KeepsIn lo hi W W' ∧ Ix .ret W'
  | .exit id, _, W' => KeepsIn lo hi W W' ∧ Ix (.exit id) W'
  | .goto t, _, W' => KeepsIn lo hi W W' ∧ Ix (.goto t) W'
  | .panic _, _, _ => False
  | .outgrown, _, _ => False

/-- The loop's law over an iterator with blocks of its own, that also reads what Qp tells; its things are told by their numbers. -/
theorem rangeIdx {F : Fence} {n : Nat} {P : Program} {g : Operand} {ps : Array Tmp} {assign body : Code} {Q : Exit → Act → World → Prop} {T : Array Value} {ds : List Deferred} {w : World} (md : Nat → Array Value → Array Value)
    (hro : F.round = none) (h1 : 1 ≤ n) {gf : Nat} {lb : Array Value} (hg : ({ tmps := T, defers := ds } : Act).eval g = .func (.func gf) #[] lb) (hFg : F.fn gf) (eg : ∀ args w, (callFunc gf args).run P w = .ok (.enter gf args) w)
    {encs : Nat → Array Value} {Qp : World → Prop} {N : Nat} {w0 : World} (hseq : SeqIdx F (n - 1) P gf lb encs Qp N w0) (hb0 : Below w0.heap.size w0 w) (hps : ∀ x, (encs x).size = ps.size)
    (I : Nat → Nat → World → Prop) (Ix : Nat → Code → Nat → World → Prop)
    (hI : ∀ hi s A C, I hi s A → w.heap.size + 2 ≤ hi → OwnStep w.heap.size hi A C → I hi s C)
    (hIx : ∀ hi c s A C, Ix hi c s A → w.heap.size + 2 ≤ hi → OwnStep w.heap.size hi A C → Ix hi c s C)
    (hQp : ∀ hi s A, I hi s A → Qp A)
    (h0 : ∀ A, Below w.heap.size w A → w.heap.size + 2 ≤ A.heap.size → I A.heap.size 0 A)
    (hassign : ∀ (l : Nat) (x : Nat) (W : World) (K : Act → World → Prop), K { tmps := md x T, defers := [] } W →
      assign.wpIn (F.inRound l) (n - 1 - 1) P (Exit.then K (fun _ _ _ => False)) { tmps := (ps.zip (encs x)).foldl (fun t (p, v) => t.setIfInBounds p v) T, defers := [] } W)
    (hbody : ∀ (l hi : Nat) (x : Nat) (W : World), w.heap.size + 2 ≤ hi → I hi x W → x < N → body.wpIn (F.inRound l) (n - 1 - 1) P (outI w.heap.size hi (I hi (x + 1)) (fun c W => Ix hi c (x + 1) W) W) { tmps := md x T, defers := [] } W)
    (hdone : ∀ (D hi : Nat) (W : World), w.heap.size ≤ D → D + 2 ≤ hi → I hi N W → W.heap[D]? = some (.deferred (some [])) → Q .normal { tmps := T, defers := { target := .collected D, args := #[] } :: ds } W)
    (hstop : ∀ (D hi : Nat) (c : Code) (k : Nat) (W : World), w.heap.size ≤ D → D + 2 ≤ hi → k ≤ N → Ix hi c k W → W.heap[D]? = some (.deferred (some [])) → c.wpIn F n P Q { tmps := T, defers := { target := .collected D, args := #[] } :: ds } W) :
    (Code.rangeFunc g ps assign body).wpIn F n P Q { tmps := T, defers := ds } w := by
  refine wpIn_rangeFunc ?_
  intro fn hfn
  rw [hro]
  obtain ⟨rec, hrec⟩ : ∃ rec : LoopState → Option Code → Loop, rec = fun st pe => { state := st, pending := pe, fn, tmps := T, params := ps, assign, body, defers := w.heap.size } := ⟨_, rfl⟩
  obtain ⟨W1, hW1⟩ : ∃ W1, (w.alloc (.deferred (some []))).alloc (.loop (rec .ready none)) = W1 := ⟨_, rfl⟩
  have hL1 : W1.heap[w.heap.size + 1]? = some (.loop (rec .ready none)) := by
    rw [← hW1]; have := World.alloc_heap_new (w.alloc (.deferred (some []))) (.loop (rec .ready none)); rwa [World.size_alloc] at this
  have hK1 : W1.heap[w.heap.size]? = some (.deferred (some [])) := by
    rw [← hW1]; exact (Below.heap_alloc _ _ _ (by simp)).trans (World.alloc_heap_new w _)
  have hS1 : W1.heap.size = w.heap.size + 2 := by rw [← hW1]; simp
  have hbw : Below w.heap.size w W1 := by
    rw [← hW1]; exact ((Below.refl _ w).alloc (Nat.le_refl _) _).alloc (by simp) _
  have hb1 : Below w0.heap.size w0 W1 := hb0.trans (hbw.mono hb0.size)
  refine ⟨w.heap.size + 1, [{ target := .collected w.heap.size, args := #[] }], W1, { target := .fn (.func gf) lb, args := #[.func (.yield (w.heap.size + 1)) #[] #[]] }, W1, gf,
    #[.func (.yield (w.heap.size + 1)) #[] #[]] ++ lb, W1, ?_, ?_, ?_, ?_, fun _ => h1, ?_⟩
  · rw [← hW1, hrec]; exact run_enterLoop_outer _ _ _ _ _
  · simp only [resolve, hg]
    simp [go_sem]
  · intro f' hf'; simp [Target.leads] at hf'; subst hf'; exact hFg
  · simp [invoke, go_sem, eg]
  · refine (hseq (w.heap.size + 1)
      (fun hi pre W => I hi pre W ∧ W.heap[w.heap.size + 1]? = some (.loop (rec .ready none)) ∧ W.heap[w.heap.size]? = some (.deferred (some [])))
      (fun hi pre W => ∃ c, Ix hi c pre W ∧ W.heap[w.heap.size + 1]? = some (.loop (rec .done (some c))) ∧ W.heap[w.heap.size]? = some (.deferred (some [])))
      W1 hb1
      (fun hi s A C hs hhi hg' => ⟨hI hi s A C hs.1 (by omega) (hg'.widen (by omega) (Nat.le_refl _)), (hg'.block _ (Array.getElem?_eq_some_iff.1 hs.2.1).1 (.inl (by omega))).trans hs.2.1, (hg'.block _ (Array.getElem?_eq_some_iff.1 hs.2.2).1 (.inl (by omega))).trans hs.2.2⟩)
      (fun hi s A C hs hhi hg' => by
        obtain ⟨c, hc, hl, hk⟩ := hs
        exact ⟨c, hIx hi c s A C hc (by omega) (hg'.widen (by omega) (Nat.le_refl _)), (hg'.block _ (Array.getElem?_eq_some_iff.1 hl).1 (.inl (by omega))).trans hl, (hg'.block _ (Array.getElem?_eq_some_iff.1 hk).1 (.inl (by omega))).trans hk⟩)
      (fun hi s A hs => hQp hi s A hs.1) ?_ (fun A hA => ⟨h0 A (hbw.trans (hA.mono (by omega))) (by have := hA.size; omega), (hA.block _ (by omega)).trans hL1, (hA.block _ (by omega)).trans hK1⟩)).mono ?_
    · -- one round
      rintro hi x W hhi ⟨hi0, hl, hk⟩ hlen
      have hhi2 : w.heap.size + 2 ≤ hi := by omega
      have hlt : w.heap.size + 1 < W.heap.size := (Array.getElem?_eq_some_iff.1 hl).1
      have hy := run_yield (P := P) (args := encs x) hl (by rw [hrec]; exact hps x)
      rw [hrec] at hy
      refine ⟨fn, _, assign, body, hy, roundIn_of_wpIn hfn (hassign _ x W _ ⟨_, run_beginRound hl (by rw [hrec]), ?_⟩)⟩
      have hl2 : (W.putObj (w.heap.size + 1) (.loop { rec .ready none with state := .busy })).heap[w.heap.size + 1]? = some (.loop { rec .ready none with state := .busy }) := World.putObj_heap_same hlt
      have hk2 : (W.putObj (w.heap.size + 1) (.loop { rec .ready none with state := .busy })).heap[w.heap.size]? = some (.deferred (some [])) := (World.putObj_heap_other (by omega)).trans hk
      have hput : ∀ (X : World) (o o' : Obj), X.heap[w.heap.size + 1]? = some o → KeepsIn (w.heap.size + 2) hi X (X.putObj (w.heap.size + 1) o') := fun X o o' _ => ⟨rfl, by simp, fun k h1 h2 h3 => World.putObj_heap_other (by omega)⟩
      refine wpIn_mono (hbody _ hi x _ hhi2 (hI hi _ _ _ hi0 hhi2 (OwnStep.putObj _ _ hl (by omega) (by omega))) hlen) ?_
      have fin : ∀ (jump : Option Code) (W3 : World), KeepsIn w.heap.size hi (W.putObj (w.heap.size + 1) (.loop { rec .ready none with state := .busy })) W3 →
          (Instr.endRound (w.heap.size + 1) jump).run P W3 = .ok (.bool jump.isNone) (W3.putObj (w.heap.size + 1) (.loop (rec (if jump.isNone then .ready else .done) jump))) ∧
          W3.heap[w.heap.size + 1]? = some (.loop { rec .ready none with state := .busy }) ∧
          (W3.putObj (w.heap.size + 1) (.loop (rec (if jump.isNone then .ready else .done) jump))).heap[w.heap.size + 1]? = some (.loop (rec (if jump.isNone then .ready else .done) jump)) ∧
          (W3.putObj (w.heap.size + 1) (.loop (rec (if jump.isNone then .ready else .done) jump))).heap[w.heap.size]? = some (.deferred (some [])) := fun jump W3 hk3 => by
        have hl3 := (hk3.block _ (by omega) (by omega) (Array.getElem?_eq_some_iff.1 hl2).1).trans hl2
        have := run_endRound (P := P) jump hl3
        rw [hrec] at this ⊢
        exact ⟨this, by rw [hrec] at hl3; exact hl3, World.putObj_heap_same (Array.getElem?_eq_some_iff.1 hl3).1, (World.putObj_heap_other (by omega)).trans ((hk3.block _ (Nat.le_refl _) (by omega) (Array.getElem?_eq_some_iff.1 hk2).1).trans hk2)⟩
      rintro e a3 W3 hp
      cases e with
      | normal =>
        obtain ⟨hk3, hi3⟩ := hp
        obtain ⟨hr, hl3, hl4, hk4⟩ := fin none W3 hk3
        refine ⟨_, _, hr, .inl ⟨rfl, ⟨hI hi _ _ _ hi3 hhi2 (OwnStep.putObj _ _ hl3 (by omega) (by omega)), hl4, hk4⟩, ?_⟩⟩
        rw [hS1]
        exact ((hput W _ _ hl).trans (hk3.narrow (by omega))).trans (hput W3 _ _ hl3)
      | ret =>
        obtain ⟨hk3, hi3⟩ := hp
        obtain ⟨hr, hl3, hl4, hk4⟩ := fin (some .ret) W3 hk3
        exact ⟨_, _, hr, .inr ⟨rfl, ⟨.ret, hIx hi _ _ _ _ hi3 hhi2 (OwnStep.putObj _ _ hl3 (by omega) (by omega)), hl4, hk4⟩, by rw [hS1]; exact ((hput W _ _ hl).trans (hk3.narrow (by omega))).trans (hput W3 _ _ hl3)⟩⟩
      | exit id =>
        obtain ⟨hk3, hi3⟩ := hp
        obtain ⟨hr, hl3, hl4, hk4⟩ := fin (some (.exit id)) W3 hk3
        exact ⟨_, _, hr, .inr ⟨rfl, ⟨.exit id, hIx hi _ _ _ _ hi3 hhi2 (OwnStep.putObj _ _ hl3 (by omega) (by omega)), hl4, hk4⟩, by rw [hS1]; exact ((hput W _ _ hl).trans (hk3.narrow (by omega))).trans (hput W3 _ _ hl3)⟩⟩
      | goto t =>
        obtain ⟨hk3, hi3⟩ := hp
        obtain ⟨hr, hl3, hl4, hk4⟩ := fin (some (.goto t)) W3 hk3
        exact ⟨_, _, hr, .inr ⟨rfl, ⟨.goto t, hIx hi _ _ _ _ hi3 hhi2 (OwnStep.putObj _ _ hl3 (by omega) (by omega)), hl4, hk4⟩, by rw [hS1]; exact ((hput W _ _ hl).trans (hk3.narrow (by omega))).trans (hput W3 _ _ hl3)⟩⟩
      | panic ch => exact hp.elim
      | outgrown => exact hp.elim
    · -- behind the iterator
      rintro e W2 ⟨⟨v, rfl⟩, hi, hhi, (⟨hi0, hl, hk⟩ | ⟨pre, hSp, c, hi0, hl, hk⟩)⟩
      · exact ⟨none, _, by have := run_endLoop (P := P) hl (by rw [hrec]; simp); rw [hrec] at this; exact this, hdone _ hi _ (Nat.le_refl _) (by omega) (hI hi _ _ _ hi0 (by omega) (OwnStep.putObj _ _ hl (by omega) (by omega))) ((World.putObj_heap_other (by omega)).trans hk)⟩
      · exact ⟨some c, _, by have := run_endLoop (P := P) hl (by rw [hrec]; simp); rw [hrec] at this; exact this, hstop _ hi c pre _ (Nat.le_refl _) (by omega) hSp (hIx hi _ _ _ _ hi0 (by omega) (OwnStep.putObj _ _ hl (by omega) (by omega))) ((World.putObj_heap_other (by omega)).trans hk)⟩
end Go.Proofs.Ytahccgbmbnmcgaa
