/- A range over a function whose body may break out: both ways out go on alike. -/
import Derived.Test.YtpnhklehpilopaaOmRange
namespace Go.Proofs.Ytpnhklehpilopaa
open Go Go.RowKit

/-- The loop's law where the one way out besides the end is a break: R is what holds behind the loop, on either way. -/
theorem rangeGB {F : Fence} {n : Nat} {P : Program} {α : Type} {g : Operand} {ps : Array Tmp} {assign body : Code} {Q : Exit → Act → World → Prop} {T : Array Value} {ds : List Deferred} {w : World} (md : α → Array Value → Array Value) (id : Nat)
    (hro : F.round = none) (h1 : 1 ≤ n) {gf : Nat} {lb : Array Value} (hg : ({ tmps := T, defers := ds } : Act).eval g = .func (.func gf) #[] lb) (hFg : F.fn gf) (eg : ∀ args w, (callFunc gf args).run P w = .ok (.enter gf args) w)
    {encs : α → Array Value} {Kp : World → World → Prop} {S Sp : List α → Prop} {N : Nat} {w0 : World} (hseq : SeqStopsK F (n - 1) P gf lb encs Kp S Sp N w0)
    (hKt : ∀ {A B C : World}, Kp A B → Kp B C → Kp A C) (hKb : ∀ (W : World) (l : Nat) (o o' : Obj), w.heap.size ≤ l → W.heap[l]? = some o → o.isCells = false → o.isWalk = false → Kp W (W.putObj l o')) (hb0 : Below w0.heap.size w0 w) (hps : ∀ x, (encs x).size = ps.size)
    (I Ix : List α → World → Prop) (hI : OwnFrom w.heap.size I) (hIx : OwnFrom w.heap.size Ix) (h0 : I [] w)
    (hassign : ∀ (l : Nat) (x : α) (W : World) (K : Act → World → Prop), K { tmps := md x T, defers := [] } W →
      assign.wpIn (F.inRound l) (n - 1 - 1) P (Exit.then K (fun _ _ _ => False)) { tmps := (ps.zip (encs x)).foldl (fun t (p, v) => t.setIfInBounds p v) T, defers := [] } W)
    (hbody : ∀ (l : Nat) (pre : List α) (x : α) (W : World), I pre W → pre.length < N → body.wpIn (F.inRound l) (n - 1 - 1) P (ownPostG w.heap.size Kp I (fun c pre W => c = .exit id ∧ Ix pre W) (pre ++ [x]) W) { tmps := md x T, defers := [] } W)
    (R : World → Prop) (hdone : ∀ xs W, S xs → I xs W → R W) (hstop : ∀ pre W, Sp pre → Ix pre W → R W) (hQ : ∀ a W, Q .normal a W → Q (.exit id) a W)
    (hrest : ∀ (D : Nat) (W : World), w.heap.size ≤ D → R W → W.heap[D]? = some (.deferred (some [])) → Q .normal { tmps := T, defers := { target := .collected D, args := #[] } :: ds } W) :
    (Code.rangeFunc g ps assign body).wpIn F n P Q { tmps := T, defers := ds } w :=
  rangeG md hro h1 hg hFg eg hseq hKt hKb hb0 hps I (fun c pre W => c = .exit id ∧ Ix pre W) hI (fun c s A B row hs hgr hr => ⟨hs.1, hIx s A B row hs.2 hgr hr⟩) h0 hassign hbody
    (fun D xs W hD hS hi hK => hrest D W hD (hdone xs W hS hi) hK)
    (fun D c pre W hD hp hx hK => by
      obtain ⟨rfl, hx⟩ := hx
      gi_wp2
      exact hQ _ _ (hrest D W hD (hstop pre W hp hx) hK))
end Go.Proofs.Ytpnhklehpilopaa
