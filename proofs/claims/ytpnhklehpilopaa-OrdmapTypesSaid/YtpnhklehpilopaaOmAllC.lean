/- Get, the greatest key, All's iterator. -/
import Derived.Test.YtpnhklehpilopaaOmSeqC
namespace Go.Proofs.Ytpnhklehpilopaa
open Go Go.RowKit

attribute [local go_sem] Oper.semAt_some

set_option maxHeartbeats 800000 in
set_option maxRecDepth 100000 in
theorem getHasC {W : World} {base b : Nat} {p : Option Addr} {c : Nat} {l : List (Int × Int)} (h : MapC W base b p c l) (hn : l.length ≤ 1000000) (k : Int) (v : Int) (hx : l[kRank ltI l k]? = some (k, v)) :
    Calls Try.prog 34 #[.pointer (some ⟨b, 0, none⟩), Value.int .i64 k] W fun e w' => e = .returned (.tuple #[Value.int .i64 v, .bool true]) ∧ Below W.heap.size W w' := by
  have hf := findC h hn k
  rw [(has_at_rank ordI h.srt k).2 ⟨v, hx⟩] at hf
  have H := Lib.hid h
  have hj : kRank ltI l k < l.length := (List.getElem?_eq_some_iff.1 hx).1
  clear h
  generalize hrk : kRank ltI l k = r at *
  have HX := Lib.hid hx
  clear hrk hx
  go_enter Try.func34, Try.ntmps34
  go_wp2_with fail
  refine hf.mono ?_
  rintro e w1 ⟨rfl, hb⟩
  have hM := H.out.below hb
  obtain ⟨g, rfl, hc, hk, hvv⟩ := hM.at HX.out
  have hp := hM.pairs
  have hr0 : (0 : Int) ≤ (r : Int) := by omega
  have hr1 : (r : Int) < (l.length : Int) := by omega
  clear hM hk hf
  generalize l.length = n at *
  go_wp2
  go_ret2
  exact ⟨rfl, hb⟩

set_option maxHeartbeats 800000 in
set_option maxRecDepth 100000 in
theorem getNoneC {W : World} {base b : Nat} {p : Option Addr} {c : Nat} {l : List (Int × Int)} (h : MapC W base b p c l) (hn : l.length ≤ 1000000) (k : Int) (hf0 : kHas l k = false) :
    Calls Try.prog 34 #[.pointer (some ⟨b, 0, none⟩), Value.int .i64 k] W fun e w' => e = .returned (.tuple #[.int .i64 0, .bool false]) ∧ Below W.heap.size W w' := by
  have hf := findC h hn k
  rw [hf0] at hf
  clear h hf0
  go_enter Try.func34, Try.ntmps34
  go_wp2_with (go_at_call 127; refine hf.mono ?_; rintro e w1 ⟨rfl, hb⟩)
  go_ret2
  exact ⟨rfl, hb⟩

theorem getC {W : World} {base b : Nat} {p : Option Addr} {c : Nat} {l : List (Int × Int)} (h : MapC W base b p c l) (hn : l.length ≤ 1000000) (k : Int) :
    Calls Try.prog 34 #[.pointer (some ⟨b, 0, none⟩), Value.int .i64 k] W fun e w' => e = .returned (.tuple #[Value.int .i64 ((kGet l k).getD (0 : Int)), .bool (kHas l k)]) ∧ Below W.heap.size W w' := by
  cases hh : kHas l k with
  | false =>
    rw [kGet_none hh]
    exact getNoneC h hn k hh
  | true =>
    obtain ⟨v, hv⟩ := (has_at_rank ordI h.srt k).1 hh
    rw [kGet_some ordI h.srt hv]
    exact getHasC h hn k v hv

set_option maxHeartbeats 800000 in
set_option maxRecDepth 100000 in
theorem allMakeC (v' : Option Addr) (W : World) :
    Calls Try.prog 31 #[.pointer v'] W fun e w' => e = .returned (.func (.func 124) #[] #[.pointer (some ⟨W.heap.size, 0, none⟩)]) ∧ w' = W.alloc (.cells #[.pointer v'] 46) := by
  go_enter Try.func31, Try.ntmps31
  go_wp2
  go_ret
  exact ⟨rfl, rfl⟩

set_option maxRecDepth 100000 in
set_option maxHeartbeats 2000000 in
theorem all1C_in (n : Nat) (hn : 3 ≤ n) (lr bm n₀ : Nat) {base b : Nat} {p : Option Addr} {c : Nat} {l : List (Int × Int)} (hreach : l.length ≤ 1000000) (J Jx : List (Int × Int) → World → Prop) (hJ : AbNew J)
    (hY : ∀ (m : Nat) pre x W, J pre W → l[pre.length]? = some x → YieldAt Fence.wide m Try.prog lr #[Value.int .i64 x.1, Value.int .i64 x.2] W fun e W' =>
      (e = .returned (.bool true) ∧ J (pre ++ [x]) W' ∧ Below n₀ W W') ∨ (e = .returned (.bool false) ∧ Jx (pre ++ [x]) W'))
    (W : World) (hn₀ : n₀ ≤ W.heap.size) (hm : W.cell? ⟨bm, 0, none⟩ = some (.pointer (some ⟨b, 0, none⟩))) (hM : MapC W base b p c l) (hp : ∀ a, p = some a → a.block < n₀) (h0 : J [] W) :
    CallsIn Fence.wide n Try.prog 124 #[.func (.yield lr) #[] #[], .pointer (some ⟨bm, 0, none⟩)] W fun e W' => (∃ v, e = .returned v) ∧ (J l W' ∨ ∃ pre, pre <+: l ∧ Jx pre W') := by
  have hlist := listC hM
  have heach := eachC_in (n - 1) (by omega) lr n₀ p l.length c l rfl hreach J Jx hJ hY W hn₀ (hM.prs hp) h0
  have HE := Lib.hid heach
  have h1 : 1 ≤ n := by omega
  clear heach hM hp hY hJ h0
  generalize l.length = len at *
  refine callsIn_of_wp Try.func124 rfl trivial ?_ rfl
  simp only [Try.ntmps124, List.size_toArray, List.length_cons, List.length_nil, Nat.reduceAdd, Nat.reduceSub, Array.replicate_succ, Array.replicate_zero, List.push_toArray, List.append_toArray, List.nil_append, List.cons_append]
  gi_wp2_with (first | (refine ⟨trivial, ?_⟩; gi_at_call 121; refine (callsIn_wide.2 hlist).mono ?_; rintro e w' ⟨rfl, rfl⟩) | (refine ⟨trivial, ?_⟩; gi_at_call 120; refine HE.out.mono ?_; rintro e w3 ⟨⟨v, rfl⟩, hor⟩))
  go_end0
  exact ⟨⟨_, rfl⟩, hor⟩

/-- All's iterator, made in this world, keeps what it says in every later one. -/
theorem allStopsC (n : Nat) (hn : 3 ≤ n) {base b : Nat} {p : Option Addr} {c : Nat} {l : List (Int × Int)} (hreach : l.length ≤ 1000000) (bm n₀ : Nat) (w : World) (hm : w.cell? ⟨bm, 0, none⟩ = some (.pointer (some ⟨b, 0, none⟩)))
    (hM : MapC w base b p c l) (hp : ∀ a, p = some a → a.block < n₀) (hn₀ : n₀ ≤ w.heap.size) :
    SeqStopsK Fence.wide n Try.prog 124 #[.pointer (some ⟨bm, 0, none⟩)] encC (Below n₀) (fun ys => ys = l) (fun pre => pre <+: l) l.length w := fun lr J Jx W hW hJ hJx hY h0 => by
  have hm' := (hW.cell (World.block_lt_of_cell? _ _ hm)).trans hm
  refine (all1C_in n hn lr bm n₀ hreach J Jx (abNew_of hJ) (fun m pre x W1 hj hx => yieldDepth rfl m (hY pre x W1 hj (List.getElem?_eq_some_iff.1 hx).1)) W (Nat.le_trans hn₀ hW.size) hm' (hM.below hW) hp h0).mono ?_
  rintro e W' ⟨he, hor⟩
  refine ⟨he, ?_⟩
  rcases hor with h | ⟨pre, h1, h2⟩
  · exact .inl ⟨_, rfl, h⟩
  · exact .inr ⟨pre, h1, h2⟩

/-- .. told by the places of what it yields. -/
theorem allIdxC (n : Nat) (hn : 3 ≤ n) {base b : Nat} {p : Option Addr} {c : Nat} {l : List (Int × Int)} (hreach : l.length ≤ 1000000) (bm n₀ : Nat) (w : World) (hm : w.cell? ⟨bm, 0, none⟩ = some (.pointer (some ⟨b, 0, none⟩)))
    (hM : MapC w base b p c l) (hp : ∀ a, p = some a → a.block < n₀) (hn₀ : n₀ ≤ w.heap.size) (f : Nat → Int × Int) (hf : ∀ j x, l[j]? = some x → f j = x) :
    SeqStopsK Fence.wide n Try.prog 124 #[.pointer (some ⟨bm, 0, none⟩)] (fun i => encC (f i)) (Below n₀) (fun ys => ys = List.range l.length) (fun pre => pre <+: List.range l.length) l.length w := fun lr J Jx W hW hJ hJx hY h0 => by
  have hm' := (hW.cell (World.block_lt_of_cell? _ _ hm)).trans hm
  refine (all1C_in n hn lr bm n₀ hreach (fun pre => J (List.range pre.length)) (fun pre => Jx (List.range pre.length)) (fun s W1 W2 h hg => abNew_of hJ _ W1 W2 h hg)
    (fun m pre x W1 hj hx => by
      have := yieldDepth rfl m (hY (List.range pre.length) pre.length W1 hj (by rw [List.length_range]; exact (List.getElem?_eq_some_iff.1 hx).1))
      simp only [hf _ _ hx, ← List.range_succ] at this
      simp only [List.length_append, List.length_singleton]
      exact this) W (Nat.le_trans hn₀ hW.size) hm' (hM.below hW) hp h0).mono ?_
  rintro e W' ⟨he, hor⟩
  refine ⟨he, ?_⟩
  rcases hor with h | ⟨pre, h1, h2⟩
  · exact .inl ⟨_, rfl, h⟩
  · exact .inr ⟨_, range_prefix h1.length_le, h2⟩
end Go.Proofs.Ytpnhklehpilopaa
