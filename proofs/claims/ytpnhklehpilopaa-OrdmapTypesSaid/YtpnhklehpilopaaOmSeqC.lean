/- The iterators of an ordered map, as a loop meets them. -/
import Derived.Test.YtpnhklehpilopaaOmIterC
namespace Go.Proofs.Ytpnhklehpilopaa
open Go Go.RowKit

/-- What yield is called with. -/
def encC (x : Int × Int) : Array Value := #[Value.int .i64 x.1, Value.int .i64 x.2]

set_option maxHeartbeats 800000 in
set_option maxRecDepth 100000 in
theorem fromMakeC (v' : Option Addr) (k : Int) (W : World) :
    Calls Try.prog 28 #[.pointer v', Value.int .i64 k] W fun e w' => e = .returned (.func (.func 119) #[] #[.pointer (some ⟨W.heap.size, 0, none⟩), .pointer (some ⟨W.heap.size + 1, 0, none⟩)]) ∧
      w' = (W.alloc (.cells #[.pointer v'] 46)).alloc (.cells #[Value.int .i64 k] 3) := by
  go_enter Try.func28, Try.ntmps28
  go_wp2
  go_ret
  exact ⟨rfl, rfl⟩

/-- From's iterator, made in this world, keeps what it says in every later one. -/
theorem fromStopsC (n : Nat) (hn : 3 ≤ n) {base b : Nat} {p : Option Addr} {c : Nat} {l : List (Int × Int)} (k : Int) (hreach : l.length ≤ 1000000) (bm bk n₀ : Nat) (w : World) (hm : w.cell? ⟨bm, 0, none⟩ = some (.pointer (some ⟨b, 0, none⟩))) (hk : w.cell? ⟨bk, 0, none⟩ = some (Value.int .i64 k))
    (hM : MapC w base b p c l) (hp : ∀ a, p = some a → a.block < n₀) (hn₀ : n₀ ≤ w.heap.size) :
    SeqStopsK Fence.wide n Try.prog 119 #[.pointer (some ⟨bm, 0, none⟩), .pointer (some ⟨bk, 0, none⟩)] encC (Below n₀) (fun ys => ys = l.drop (kRank ltI l k)) (fun pre => pre <+: l.drop (kRank ltI l k)) (l.drop (kRank ltI l k)).length w := fun lr J Jx W hW hJ hJx hY h0 => by
  have hm' := (hW.cell (World.block_lt_of_cell? _ _ hm)).trans hm
  have hk' := (hW.cell (World.block_lt_of_cell? _ _ hk)).trans hk
  refine (from1C_in n hn lr bm bk n₀ k hreach J Jx (abNew_of hJ) (fun m pre x W1 hj hx => yieldDepth rfl m (hY pre x W1 hj (List.getElem?_eq_some_iff.1 hx).1)) W (Nat.le_trans hn₀ hW.size) hm' hk' (hM.below hW) hp h0).mono ?_
  rintro e W' ⟨he, hor⟩
  refine ⟨he, ?_⟩
  rcases hor with h | ⟨pre, h1, h2⟩
  · exact .inl ⟨_, rfl, h⟩
  · exact .inr ⟨pre, h1, h2⟩

/-- From's iterator, told by the places of what it yields: the caller's loop need only speak of what the map holds. -/
theorem fromIdxC (n : Nat) (hn : 3 ≤ n) {base b : Nat} {p : Option Addr} {c : Nat} {l : List (Int × Int)} (k : Int) (hreach : l.length ≤ 1000000) (bm bk n₀ : Nat) (w : World) (hm : w.cell? ⟨bm, 0, none⟩ = some (.pointer (some ⟨b, 0, none⟩))) (hk : w.cell? ⟨bk, 0, none⟩ = some (Value.int .i64 k))
    (hM : MapC w base b p c l) (hp : ∀ a, p = some a → a.block < n₀) (hn₀ : n₀ ≤ w.heap.size) (f : Nat → Int × Int) (hf : ∀ j x, (l.drop (kRank ltI l k))[j]? = some x → f j = x) :
    SeqStopsK Fence.wide n Try.prog 119 #[.pointer (some ⟨bm, 0, none⟩), .pointer (some ⟨bk, 0, none⟩)] (fun i => encC (f i)) (Below n₀) (fun ys => ys = List.range (l.drop (kRank ltI l k)).length) (fun pre => pre <+: List.range (l.drop (kRank ltI l k)).length) (l.drop (kRank ltI l k)).length w := fun lr J Jx W hW hJ hJx hY h0 => by
  have hm' := (hW.cell (World.block_lt_of_cell? _ _ hm)).trans hm
  have hk' := (hW.cell (World.block_lt_of_cell? _ _ hk)).trans hk
  refine (from1C_in n hn lr bm bk n₀ k hreach (fun pre => J (List.range pre.length)) (fun pre => Jx (List.range pre.length)) (fun s W1 W2 h hg => abNew_of hJ _ W1 W2 h hg)
    (fun m pre x W1 hj hx => by
      have := yieldDepth rfl m (hY (List.range pre.length) pre.length W1 hj (by rw [List.length_range]; exact (List.getElem?_eq_some_iff.1 hx).1))
      simp only [hf _ _ hx, ← List.range_succ] at this
      simp only [List.length_append, List.length_singleton]
      exact this) W (Nat.le_trans hn₀ hW.size) hm' hk' (hM.below hW) hp h0).mono ?_
  rintro e W' ⟨he, hor⟩
  refine ⟨he, ?_⟩
  rcases hor with h | ⟨pre, h1, h2⟩
  · exact .inl ⟨_, rfl, h⟩
  · exact .inr ⟨_, range_prefix h1.length_le, h2⟩

set_option maxHeartbeats 800000 in
set_option maxRecDepth 100000 in
theorem yieldsC (g : Nat) (lb : Array Value) (W : World) :
    Calls Try.prog 29 #[.func (.func g) #[] lb] W fun e w' => e = .returned (.func (.func g) #[] lb) ∧ w' = W := by
  have hq := fun w f x y => run_eql_func_nil (P := Try.prog) w Try.underlying50 f x y
  go_enter Try.func29, Try.ntmps29
  go_wp2
  go_ret
  exact ⟨rfl, rfl⟩
end Go.Proofs.Ytpnhklehpilopaa
