/- The loop's law where the one way out besides the end is a break. -/
import Derived.Test.YtejkbanecbjdoaaRangeN
namespace Go.Proofs.Ytejkbanecbjdoaa
open Go Go.RowKit

theorem rangeNB {F : Fence} {n : Nat} {P : Program} {g : Operand} {ps : Array Tmp} {assign body : Code} {Q : Exit → Act → World → Prop} {T : Array Value} {ds : List Deferred} {w : World} (md : Nat → Array Value → Array Value) (id : Nat)
    (hro : F.round = none) (h1 : 1 ≤ n) {gf : Nat} {lb : Array Value} (hg : ({ tmps := T, defers := ds } : Act).eval g = .func (.func gf) #[] lb) (hFg : F.fn gf) (eg : ∀ args w, (callFunc gf args).run P w = .ok (.enter gf args) w)
    {encs : Nat → Array Value} {N : Nat} {w0 : World} (hseq : SeqN F (n - 1) P gf lb encs N w0) (hb0 : Below w0.heap.size w0 w) (hps : ∀ x, (encs x).size = ps.size)
    (I Ix : Nat → World → Prop)
    (hI : ∀ s A C, I s A → OwnStep w.heap.size (w.heap.size + 2) A C → I s C)
    (hIx : ∀ s A C, Ix s A → OwnStep w.heap.size (w.heap.size + 2) A C → Ix s C)
    (h0 : ∀ A, Below w.heap.size w A → I 0 A)
    (hassign : ∀ (l : Nat) (x : Nat) (W : World) (K : Act → World → Prop), K { tmps := md x T, defers := [] } W →
      assign.wpIn (F.inRound l) (n - 1 - 1) P (Exit.then K (fun _ _ _ => False)) { tmps := (ps.zip (encs x)).foldl (fun t (p, v) => t.setIfInBounds p v) T, defers := [] } W)
    (hbody : ∀ (l : Nat) (x : Nat) (W : World), I x W → x < N → w.heap.size + 2 ≤ W.heap.size → body.wpIn (F.inRound l) (n - 1 - 1) P (outN w.heap.size (I (x + 1)) (fun c W => c = .exit id ∧ Ix (x + 1) W) W) { tmps := md x T, defers := [] } W)
    (R : World → Prop) (hdone : ∀ W, I N W → R W) (hstop : ∀ k W, k ≤ N → Ix k W → R W) (hQ : ∀ a W, Q .normal a W → Q (.exit id) a W)
    (hrest : ∀ (D : Nat) (W : World), w.heap.size ≤ D → R W → W.heap[D]? = some (.deferred (some [])) → Q .normal { tmps := T, defers := { target := .collected D, args := #[] } :: ds } W) :
    (Code.rangeFunc g ps assign body).wpIn F n P Q { tmps := T, defers := ds } w :=
  rangeN md hro h1 hg hFg eg hseq hb0 hps I (fun c k W => c = .exit id ∧ Ix k W) hI (fun c s A C hs h2 => ⟨hs.1, hIx s A C hs.2 h2⟩) h0 hassign hbody
    (fun D W hD hi' hK => hrest D W hD (hdone W hi') hK)
    (fun D c k W hD hp hx hK => by
      obtain ⟨rfl, hx⟩ := hx
      gi_wp2
      exact hQ _ _ (hrest D W hD (hstop k W hp hx) hK))
end Go.Proofs.Ytejkbanecbjdoaa
