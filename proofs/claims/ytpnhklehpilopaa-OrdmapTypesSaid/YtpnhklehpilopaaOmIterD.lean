/- The iterators of an ordered map. -/
import Derived.Test.YtpnhklehpilopaaOmRange
import Derived.Test.YtpnhklehpilopaaOmCallD
namespace Go.Proofs.Ytpnhklehpilopaa
open Go Go.RowKit

attribute [local go_sem] Oper.semAt_some

/-- At p there are these keys and values, one behind the other. -/
def PrsD (W : World) (n₀ : Nat) (p : Option Addr) (zs : List (Int × (Int × ByteArray))) : Prop :=
  ∀ j x, zs[j]? = some x → ∃ g o, p = some ⟨g, o, none⟩ ∧ g < n₀ ∧ W.cell? ⟨g, o + j * 3, none⟩ = some (.int .u8 x.1) ∧ W.cell? ⟨g, o + j * 3 + 1, none⟩ = some (.int .i64 x.2.1) ∧ W.cell? ⟨g, o + j * 3 + 2, none⟩ = some (.string x.2.2)

theorem PrsD.below {W W' : World} {n₀ : Nat} {p : Option Addr} {zs : List (Int × (Int × ByteArray))} (h : PrsD W n₀ p zs) (hb : Below n₀ W W') : PrsD W' n₀ p zs := fun j x hx => by
  obtain ⟨g, o, hp, hg, h1, h2, h3⟩ := h j x hx
  exact ⟨g, o, hp, hg, (hb.cell (p := ⟨g, o + j * 3, none⟩) hg).trans h1, (hb.cell (p := ⟨g, o + j * 3 + 1, none⟩) hg).trans h2, (hb.cell (p := ⟨g, o + j * 3 + 2, none⟩) hg).trans h3⟩

set_option maxRecDepth 100000 in
set_option maxHeartbeats 2000000 in
/-- each: for every yield that keeps what lay below n₀. -/
theorem eachD_in (n : Nat) (hn : 1 ≤ n) (l n₀ : Nat) (p : Option Addr) (len cap : Nat) (zs : List (Int × (Int × ByteArray))) (hlen : zs.length = len) (hreach : len ≤ 1000000) (J Jx : List (Int × (Int × ByteArray)) → World → Prop) (hJ : AbNew J)
    (hY : ∀ (m : Nat) pre x W, J pre W → zs[pre.length]? = some x → YieldAt Fence.wide m Try.prog l #[Value.int .u8 x.1, pvD x.2] W fun e W' =>
      (e = .returned (.bool true) ∧ J (pre ++ [x]) W' ∧ Below n₀ W W') ∨ (e = .returned (.bool false) ∧ Jx (pre ++ [x]) W'))
    (W : World) (hn₀ : n₀ ≤ W.heap.size) (hP : PrsD W n₀ p zs) (h0 : J [] W) :
    CallsIn Fence.wide n Try.prog 138 #[.slice p len cap, .func (.yield l) #[] #[]] W fun e W' => (∃ v, e = .returned v) ∧ (J zs W' ∨ ∃ pre, pre <+: zs ∧ Jx pre W') := by
  have HY := Lib.hid hY
  have HP := Lib.hid hP
  have HJ := Lib.hid hJ
  have HLEN := Lib.hid hlen
  clear hY hP hJ hlen
  refine callsIn_of_wp Try.func138 rfl trivial ?_ rfl
  simp only [Try.ntmps138, List.size_toArray, List.length_cons, List.length_nil, Nat.reduceAdd, Nat.reduceSub, Array.replicate_succ, Array.replicate_zero, List.push_toArray, List.append_toArray, List.nil_append, List.cons_append]
  gi_wp2
  gi_loopw [8] (fun i wr => ∃ k : Nat, k ≤ len ∧ i = .int .i64 k ∧ J (zs.take k) wr ∧ Below n₀ W wr) (fun i _ => len - (intOf i).toNat)
  case atStart => exact ⟨0, Nat.zero_le _, rfl, by simpa using h0, Below.refl _ _⟩
  case round =>
    obtain ⟨k, hk, rfl, hJs, hnx⟩ := hrel
    by_cases hlt : k < len
    · obtain ⟨x, hx⟩ : ∃ x, zs[k]? = some x := ⟨_, List.getElem?_eq_getElem (by rw [HLEN.out]; exact hlt)⟩
      obtain ⟨g, o, hp, hg, hc1, hc2, hc3⟩ := (HP.out.below hnx) k x hx
      obtain ⟨key, vn, vs⟩ := x
      dsimp only at hc1 hc2 hc3
      subst hp
      have hsz := hnx.size
      have hJa := HJ.out.alloc hJs (.cells #[.int .u8 key, .int .i64 vn, .string vs] 195)
      obtain ⟨fn, tmps, assign, body, hy, hR⟩ := HY.out (n - 1) _ (key, (vn, vs)) _ hJa (by rw [List.length_take, HLEN.out, Nat.min_eq_left (by omega)]; exact hx)
      dsimp only at hy
      rw [← takeSucc hx] at hR
      have HX := Lib.hid hx
      have HJS := Lib.hid hJs
      clear hJs hJa hx
      have hA : Below n₀ W (wr.alloc (.cells #[.int .u8 key, .int .i64 vn, .string vs] 195)) := hnx.alloc (by omega) _
      gi_wp2
      refine hR.mono ?_
      rintro e W3 (⟨rfl, hJ3, hk3⟩ | ⟨rfl, hJx3⟩)
      · gi_wp2
        go_roundw
        case rel => exact ⟨k + 1, by omega, by simp, hJ3, hA.trans hk3⟩
        case measure => simp [intOf]; omega
      · gi_wp2
        refine bodyPost_ret (results_none rfl _ _ _) rfl ?_
        exact ⟨⟨_, rfl⟩, .inr ⟨_, List.take_prefix _ _, hJx3⟩⟩
    · obtain rfl : k = len := by omega
      gi_wp2
      go_end0
      rw [List.take_of_length_le (by rw [HLEN.out]; exact Nat.le_refl _)] at hJs
      exact ⟨⟨_, rfl⟩, .inl hJs⟩

/-- What a map holds from an index on, as the loop finds it. -/
theorem MapD.prs {W : World} {base b : Nat} {p : Option Addr} {c : Nat} {l : List (Int × (Int × ByteArray))} (h : MapD W base b p c l) {n₀ : Nat} (hn : ∀ a, p = some a → a.block < n₀) : PrsD W n₀ p l := fun j x hx => by
  obtain ⟨g, hp, hc, h1, h2, h3⟩ := h.at hx
  refine ⟨g, 0, hp, hn _ hp, ?_, ?_, ?_⟩
  · rw [Nat.zero_add]; exact h1
  · rw [Nat.zero_add]; exact h2
  · rw [Nat.zero_add]; exact h3

theorem setD {W : World} {base b : Nat} {p : Option Addr} {c : Nat} {l : List (Int × (Int × ByteArray))} (h : MapD W base b p c l) (hn : l.length ≤ 1000000) (k : Int) (x : (Int × ByteArray)) (hbase : base ≤ W.heap.size) :
    Calls Try.prog 41 #[.pointer (some ⟨b, 0, none⟩), Value.int .u8 k, pvD x] W fun e w' => e = .returned (.tuple #[pvD ((kGet l k).getD ((0 : Int), (⟨#[]⟩ : ByteArray))), .bool (kHas l k), .int .i64 0]) ∧
      ∃ p' c', MapD w' base b p' c' (kSet ltI l k x) ∧ Touch b p W w' ∧ Head p p' W.heap.size := by
  cases hh : kHas l k with
  | false =>
    rw [kGet_none hh, kSet, if_neg (by rw [hh]; decide)]
    exact setNewD h hn k x hh hbase
  | true =>
    obtain ⟨v, hv⟩ := (has_at_rank ordI h.srt k).1 hh
    rw [kGet_some ordI h.srt hv, kSet, if_pos hh]
    exact (setHasD h hn k x v hv).mono fun e w' ⟨he, hm, ht⟩ => ⟨he, p, c, hm, ht, Head.refl _ _⟩

end Go.Proofs.Ytpnhklehpilopaa
