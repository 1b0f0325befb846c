/- The loop's law where the one way out besides the end is a break. -/
import Derived.Test.YtahccgbmbnmcgaaHiRange
namespace Go.Proofs.Ytahccgbmbnmcgaa
open Go Go.RowKit

theorem rangeIdxB {F : Fence} {n : Nat} {P : Program} {g : Operand} {ps : Array Tmp} {assign body : Code} {Q : Exit → Act → World → Prop} {T : Array Value} {ds : List Deferred} {w : World} (md : Nat → Array Value → Array Value) (id : Nat)
    (hro : F.round = none) (h1 : 1 ≤ n) {gf : Nat} {lb : Array Value} (hg : ({ tmps := T, defers := ds } : Act).eval g = .func (.func gf) #[] lb) (hFg : F.fn gf) (eg : ∀ args w, (callFunc gf args).run P w = .ok (.enter gf args) w)
    {encs : Nat → Array Value} {Qp : World → Prop} {N : Nat} {w0 : World} (hseq : SeqIdx F (n - 1) P gf lb encs Qp N w0) (hb0 : Below w0.heap.size w0 w) (hps : ∀ x, (encs x).size = ps.size)
    (I Ix : Nat → Nat → World → Prop)
    (hI : ∀ hi s A C, I hi s A → w.heap.size + 2 ≤ hi → OwnStep w.heap.size hi A C → I hi s C)
    (hIx : ∀ hi s A C, Ix hi s A → w.heap.size + 2 ≤ hi → OwnStep w.heap.size hi A C → Ix hi s C)
    (hQp : ∀ hi s A, I hi s A → Qp A)
    (h0 : ∀ A, Below w.heap.size w A → w.heap.size + 2 ≤ A.heap.size → I A.heap.size 0 A)
    (hassign : ∀ (l : Nat) (x : Nat) (W : World) (K : Act → World → Prop), K { tmps := md x T, defers := [] } W →
      assign.wpIn (F.inRound l) (n - 1 - 1) P (Exit.then K (fun _ _ _ => False)) { tmps := (ps.zip (encs x)).foldl (fun t (p, v) => t.setIfInBounds p v) T, defers := [] } W)
    (hbody : ∀ (l hi : Nat) (x : Nat) (W : World), w.heap.size + 2 ≤ hi → I hi x W → x < N → body.wpIn (F.inRound l) (n - 1 - 1) P (outI w.heap.size hi (I hi (x + 1)) (fun c W => c = .exit id ∧ Ix hi (x + 1) W) W) { tmps := md x T, defers := [] } W)
    (R : World → Prop) (hdone : ∀ hi W, w.heap.size + 2 ≤ hi → I hi N W → R W) (hstop : ∀ hi k W, w.heap.size + 2 ≤ hi → k ≤ N → Ix hi k W → R W) (hQ : ∀ a W, Q .normal a W → Q (.exit id) a W)
    (hrest : ∀ (D : Nat) (W : World), w.heap.size ≤ D → R W → W.heap[D]? = some (.deferred (some [])) → Q .normal { tmps := T, defers := { target := .collected D, args := #[] } :: ds } W) :
    (Code.rangeFunc g ps assign body).wpIn F n P Q { tmps := T, defers := ds } w :=
  rangeIdx md hro h1 hg hFg eg hseq hb0 hps I (fun hi c k W => c = .exit id ∧ Ix hi k W) hI (fun hi c s A C hs h2 h3 => ⟨hs.1, hIx hi s A C hs.2 h2 h3⟩) hQp h0 hassign hbody
    (fun D hi W hD hh hi' hK => hrest D W hD (hdone hi W (by omega) hi') hK)
    (fun D hi c k W hD hh hp hx hK => by
      obtain ⟨rfl, hx⟩ := hx
      gi_wp2
      exact hQ _ _ (hrest D W hD (hstop hi k W (by omega) hp hx) hK))
end Go.Proofs.Ytahccgbmbnmcgaa
