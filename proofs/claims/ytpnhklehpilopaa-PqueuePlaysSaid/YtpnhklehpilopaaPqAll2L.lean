/- All's iterator, told with what it yields at each place. -/
import Derived.Test.YtpnhklehpilopaaPqRange2
import Derived.Test.YtpnhklehpilopaaPqAllL
namespace Go.Proofs.Ytpnhklehpilopaa
open Go Go.RowKit

theorem allAtL (n : Nat) (hn : 3 ≤ n) (bq : Nat) {base b : Nat} {p : Option Addr} {S : Nat} {m : Nat → Option Int} {l : List (Nat × Int)} (hD : Drn ltI m l) (w : World)
    (hbq : w.cell? ⟨bq, 0, none⟩ = some (.pointer (some ⟨b, 0, none⟩))) (hQ : PQL w base b p S m) :
    SeqOwnA Fence.wide n Try.prog 162 #[.pointer (some ⟨bq, 0, none⟩)] encPL (fun pre x => l[pre.length]? = some x) (fun ys => ys = l) (fun pre => pre <+: l) w := fun lr J Jx W hW hJ hJx hY h0 => by
  have hbq' := (hW.cell (World.block_lt_of_cell? _ _ hbq)).trans hbq
  refine (all1L_in n hn lr bq hD J Jx W hbq' (hQ.below hW) hJ (fun k hi pre x A hhi hj hx => yieldDepth rfl k (hY hi pre x A hhi hj hx)) (fun A hA => h0 A hA)).mono ?_
  rintro e W' ⟨he, hi, hhi, hor⟩
  refine ⟨he, hi, hhi, ?_⟩
  rcases hor with h | ⟨pre, h1, h2⟩
  · exact .inl ⟨_, rfl, h⟩
  · exact .inr ⟨_, h1, h2⟩
end Go.Proofs.Ytpnhklehpilopaa
