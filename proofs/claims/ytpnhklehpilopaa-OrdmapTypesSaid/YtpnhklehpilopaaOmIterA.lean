/- The iterators of an ordered map. -/
import Derived.Test.YtpnhklehpilopaaOmRange
import Derived.Test.YtpnhklehpilopaaOmCall2A
namespace Go.Proofs.Ytpnhklehpilopaa
open Go Go.RowKit

attribute [local go_sem] Oper.semAt_some

/-- At p there are these keys and values, one behind the other. -/
def PrsA (W : World) (n₀ : Nat) (p : Option Addr) (zs : List (Int × ByteArray)) : Prop :=
  ∀ j x, zs[j]? = some x → ∃ g o, p = some ⟨g, o, none⟩ ∧ g < n₀ ∧ W.cell? ⟨g, o + j * 2, none⟩ = some (Value.int .i64 x.1) ∧ W.cell? ⟨g, o + j * 2 + 1, none⟩ = some (Value.string x.2)

theorem PrsA.below {W W' : World} {n₀ : Nat} {p : Option Addr} {zs : List (Int × ByteArray)} (h : PrsA W n₀ p zs) (hb : Below n₀ W W') : PrsA W' n₀ p zs := fun j x hx => by
  obtain ⟨g, o, hp, hg, h1, h2⟩ := h j x hx
  exact ⟨g, o, hp, hg, (hb.cell (p := ⟨g, o + j * 2, none⟩) hg).trans h1, (hb.cell (p := ⟨g, o + j * 2 + 1, none⟩) hg).trans h2⟩

set_option maxRecDepth 100000 in
set_option maxHeartbeats 2000000 in
/-- each: for every yield that keeps what lay below n₀. -/
theorem eachA_in (n : Nat) (hn : 1 ≤ n) (l n₀ : Nat) (p : Option Addr) (len cap : Nat) (zs : List (Int × ByteArray)) (hlen : zs.length = len) (hreach : len ≤ 1000000) (J Jx : List (Int × ByteArray) → World → Prop) (hJ : AbNew J)
    (hY : ∀ (m : Nat) pre x W, J pre W → zs[pre.length]? = some x → YieldAt Fence.wide m Try.prog l #[Value.int .i64 x.1, Value.string x.2] W fun e W' =>
      (e = .returned (.bool true) ∧ J (pre ++ [x]) W' ∧ Below n₀ W W') ∨ (e = .returned (.bool false) ∧ Jx (pre ++ [x]) W'))
    (W : World) (hn₀ : n₀ ≤ W.heap.size) (hP : PrsA W n₀ p zs) (h0 : J [] W) :
    CallsIn Fence.wide n Try.prog 180 #[.slice p len cap, .func (.yield l) #[] #[]] W fun e W' => (∃ v, e = .returned v) ∧ (J zs W' ∨ ∃ pre, pre <+: zs ∧ Jx pre W') := by
  have HY := Lib.hid hY
  have HP := Lib.hid hP
  have HJ := Lib.hid hJ
  have HLEN := Lib.hid hlen
  clear hY hP hJ hlen
  refine callsIn_of_wp Try.func180 rfl trivial ?_ rfl
  simp only [Try.ntmps180, List.size_toArray, List.length_cons, List.length_nil, Nat.reduceAdd, Nat.reduceSub, Array.replicate_succ, Array.replicate_zero, List.push_toArray, List.append_toArray, List.nil_append, List.cons_append]
  gi_wp2
  gi_loopw [8] (fun i wr => ∃ k : Nat, k ≤ len ∧ i = .int .i64 k ∧ J (zs.take k) wr ∧ Below n₀ W wr) (fun i _ => len - (intOf i).toNat)
  case atStart => exact ⟨0, Nat.zero_le _, rfl, by simpa using h0, Below.refl _ _⟩
  case round =>
    obtain ⟨k, hk, rfl, hJs, hnx⟩ := hrel
    by_cases hlt : k < len
    · obtain ⟨x, hx⟩ : ∃ x, zs[k]? = some x := ⟨_, List.getElem?_eq_getElem (by rw [HLEN.out]; exact hlt)⟩
      obtain ⟨g, o, hp, hg, hc1, hc2⟩ := (HP.out.below hnx) k x hx
      obtain ⟨key, val⟩ := x
      dsimp only at hc1 hc2
      subst hp
      have hsz := hnx.size
      have hJa := HJ.out.alloc hJs (.cells #[Value.int .i64 key, Value.string val] 233)
      obtain ⟨fn, tmps, assign, body, hy, hR⟩ := HY.out (n - 1) _ (key, val) _ hJa (by rw [List.length_take, HLEN.out, Nat.min_eq_left (by omega)]; exact hx)
      dsimp only at hy
      rw [← takeSucc hx] at hR
      have HX := Lib.hid hx
      have HJS := Lib.hid hJs
      clear hJs hJa hx
      have hA : Below n₀ W (wr.alloc (.cells #[Value.int .i64 key, Value.string val] 233)) := hnx.alloc (by omega) _
      gi_wp2
      refine hR.mono ?_
      rintro e W3 (⟨rfl, hJ3, hk3⟩ | ⟨rfl, hJx3⟩)
      · gi_wp2
        go_roundw
        case rel => exact ⟨k + 1, by omega, by simp, hJ3, hA.trans hk3⟩
        case measure => simp [intOf]; omega
      · gi_wp2
        refine bodyPost_ret (results_none rfl _ _ _) rfl ?_
        exact ⟨⟨_, rfl⟩, .inr ⟨_, List.take_prefix _ _, hJx3⟩⟩
    · obtain rfl : k = len := by omega
      gi_wp2
      go_end0
      rw [List.take_of_length_le (by rw [HLEN.out]; exact Nat.le_refl _)] at hJs
      exact ⟨⟨_, rfl⟩, .inl hJs⟩

/-- What a map holds from an index on, as the loop finds it. -/
theorem MapA.prs {W : World} {base b : Nat} {p : Option Addr} {c : Nat} {l : List (Int × ByteArray)} (h : MapA W base b p c l) {n₀ : Nat} (hn : ∀ a, p = some a → a.block < n₀) : PrsA W n₀ p l := fun j x hx => by
  obtain ⟨g, hp, hc, h1, h2⟩ := h.at hx
  refine ⟨g, 0, hp, hn _ hp, ?_, ?_⟩
  · rw [Nat.zero_add]; exact h1
  · rw [Nat.zero_add]; exact h2

set_option maxRecDepth 100000 in
set_option maxHeartbeats 2000000 in
/-- From's iterator: for every yield that keeps what lay below n₀. -/
theorem from1A_in (n : Nat) (hn : 3 ≤ n) (lr bm bk n₀ : Nat) {base b : Nat} {p : Option Addr} {c : Nat} {l : List (Int × ByteArray)} (k : Int) (hreach : l.length ≤ 1000000) (J Jx : List (Int × ByteArray) → World → Prop) (hJ : AbNew J)
    (hY : ∀ (m : Nat) pre x W, J pre W → (l.drop (kRank ltI l k))[pre.length]? = some x → YieldAt Fence.wide m Try.prog lr #[Value.int .i64 x.1, Value.string x.2] W fun e W' =>
      (e = .returned (.bool true) ∧ J (pre ++ [x]) W' ∧ Below n₀ W W') ∨ (e = .returned (.bool false) ∧ Jx (pre ++ [x]) W'))
    (W : World) (hn₀ : n₀ ≤ W.heap.size) (hm : W.cell? ⟨bm, 0, none⟩ = some (.pointer (some ⟨b, 0, none⟩))) (hk : W.cell? ⟨bk, 0, none⟩ = some (Value.int .i64 k)) (hM : MapA W base b p c l) (hp : ∀ a, p = some a → a.block < n₀) (h0 : J [] W) :
    CallsIn Fence.wide n Try.prog 179 #[.func (.yield lr) #[] #[], .pointer (some ⟨bm, 0, none⟩), .pointer (some ⟨bk, 0, none⟩)] W fun e W' => (∃ v, e = .returned v) ∧ (J (l.drop (kRank ltI l k)) W' ∨ ∃ pre, pre <+: l.drop (kRank ltI l k) ∧ Jx pre W') := by
  have hle := kRank_le ltI l k
  have hrank : ∀ W', Below W.heap.size W W' → CallsIn Fence.wide (n - 1) Try.prog 90 #[.pointer (some ⟨b, 0, none⟩), Value.int .i64 k] W' fun e w' => e = .returned (.int .i64 (kRank ltI l k : Nat)) ∧ Below W.heap.size W w' := fun W' hb =>
    callsIn_wide.2 ((rankA (hM.below hb) hreach k).mono fun e w' ⟨he, hb2⟩ => ⟨he, below_then hb hb2⟩)
  have hlist : ∀ W', Below W.heap.size W W' → CallsIn Fence.wide (n - 1) Try.prog 181 #[.pointer (some ⟨b, 0, none⟩)] W' fun e w' => e = .returned (.slice p l.length c) ∧ w' = W' := fun W' hb => callsIn_wide.2 (listA (hM.below hb))
  have heach : ∀ W' p' len' cap', Below W.heap.size W W' → (l.drop (kRank ltI l k)).length = len' → PrsA W n₀ p' (l.drop (kRank ltI l k)) → CallsIn Fence.wide (n - 1) Try.prog 180 #[.slice p' len' cap', .func (.yield lr) #[] #[]] W' fun e W'' => (∃ v, e = .returned v) ∧ (J (l.drop (kRank ltI l k)) W'' ∨ ∃ pre, pre <+: l.drop (kRank ltI l k) ∧ Jx pre W'') := fun W' p' len' cap' hb hl hP =>
    eachA_in (n - 1) (by omega) lr n₀ p' len' cap' _ hl (by rw [← hl, List.length_drop]; omega) J Jx hJ hY W' (by have := hb.size; omega) (hP.below (hb.mono hn₀)) (hJ.below h0 hb)
  have hprs := hM.prs hp
  have HE := Lib.hid heach
  have hb0 : Below W.heap.size W W.drew := (Below.refl _ _).drew
  have h1 : 1 ≤ n := by omega
  have hl0 : (l.drop (kRank ltI l k)).length = l.length - kRank ltI l k := List.length_drop
  have hparts := hM.row.parts
  have HRK := Lib.hid hrank
  have HLI := Lib.hid hlist
  clear heach hrank hlist hM hp hY hJ h0
  generalize hrk : kRank ltI l k = r at *
  generalize hzs : l.drop r = zs at *
  have hd : ∀ j x, zs[j]? = some x → l[r + j]? = some x := fun j x hx => by rw [← hzs, List.getElem?_drop] at hx; exact hx
  generalize hll : l.length = len at *
  have hrl : (r : Int) ≤ (len : Int) := by omega
  have hr0 : (0 : Int) ≤ (r : Int) := by omega
  rcases hparts with ⟨hv, hnil⟩ | ⟨g, cap, cur, hv, hbg, hg, hnc, hcm, hcs, htake⟩
  · have HZ := Lib.hid hl0
    have HPR : Hid (PrsA W n₀ none zs) := fun j x hx => by
      have := hd j x hx
      have : l = [] := by simpa using hnil
      subst this
      simp at hx ⊢
      subst hzs
      simp at hx
    have hHE := HE.out
    injection hv with e1 e2 e3
    subst e1; subst e2; subst e3
    obtain rfl : r = 0 := by omega
    have HE1 : Hid (∀ W', Below W.heap.size W W' → CallsIn Fence.wide (n - 1) Try.prog 180 #[.slice none 0 0, .func (.yield lr) #[] #[]] W' fun e W'' => (∃ v, e = .returned v) ∧ (J zs W'' ∨ ∃ pre, pre <+: zs ∧ Jx pre W'')) := fun W' hb => hHE W' none 0 0 hb HZ.out HPR.out
    clear hHE HE hprs hd hnil hzs hl0 hll hrk
    refine callsIn_of_wp Try.func179 rfl trivial ?_ rfl
    simp only [Try.ntmps179, List.size_toArray, List.length_cons, List.length_nil, Nat.reduceAdd, Nat.reduceSub, Array.replicate_succ, Array.replicate_zero, List.push_toArray, List.append_toArray, List.nil_append, List.cons_append]
    gi_wp2
    gi_region_with (first | (refine ⟨trivial, ?_⟩; gi_at_call 181; refine (HLI.out _ (by assumption)).mono ?_; rintro e w' ⟨rfl, rfl⟩) | (refine ⟨trivial, ?_⟩; gi_at_call 90; refine (HRK.out _ (by assumption)).mono ?_; rintro e w1 ⟨rfl, hb1⟩) | (refine ⟨trivial, ?_⟩; gi_at_call 180; refine (HE1.out _ (by assumption)).mono ?_; rintro e w3 ⟨⟨v, rfl⟩, hor⟩))
    all_goals go_end0
    all_goals exact ⟨⟨_, rfl⟩, hor⟩
  · injection hv with e1 e2 e3
    subst e1
    have hlm : (l.map celA).length = len := by rw [List.length_map, hll]
    have hlc : len ≤ c := by rw [e3, ← hlm]; exact hnc
    have hHE := HE.out
    by_cases hcr : c = r
    · obtain rfl : r = len := by omega
      subst hcr
      have hz0 : zs = [] := List.eq_nil_of_length_eq_zero (by omega)
      have HE1 : Hid (∀ W', Below W.heap.size W W' → CallsIn Fence.wide (n - 1) Try.prog 180 #[.slice (some ⟨g, 0, none⟩) 0 0, .func (.yield lr) #[] #[]] W' fun e W'' => (∃ v, e = .returned v) ∧ (J zs W'' ∨ ∃ pre, pre <+: zs ∧ Jx pre W'')) := fun W' hb => hHE W' (some ⟨g, 0, none⟩) 0 0 hb (by rw [hz0]; rfl) (fun j x hx => by rw [hz0] at hx; simp at hx)
      clear hHE HE hprs hd hzs hl0 hll hrk hbg hg hnc hcm hcs htake e2 e3 hlm hlc hz0
      refine callsIn_of_wp Try.func179 rfl trivial ?_ rfl
      simp only [Try.ntmps179, List.size_toArray, List.length_cons, List.length_nil, Nat.reduceAdd, Nat.reduceSub, Array.replicate_succ, Array.replicate_zero, List.push_toArray, List.append_toArray, List.nil_append, List.cons_append]
      gi_wp2
      gi_region_with (first | (refine ⟨trivial, ?_⟩; gi_at_call 181; refine (HLI.out _ (by assumption)).mono ?_; rintro e w' ⟨rfl, rfl⟩) | (refine ⟨trivial, ?_⟩; gi_at_call 90; refine (HRK.out _ (by assumption)).mono ?_; rintro e w1 ⟨rfl, hb1⟩) | (refine ⟨trivial, ?_⟩; gi_at_call 180; refine (HE1.out _ (by assumption)).mono ?_; rintro e w3 ⟨⟨v, rfl⟩, hor⟩))
      all_goals go_end0
      all_goals exact ⟨⟨_, rfl⟩, hor⟩
    · have HPR : PrsA W n₀ (some ⟨g, r * 2, none⟩) zs := fun j x hx => by
        obtain ⟨g', o, hp', hg', h3, h4⟩ := hprs (r + j) x (hd j x hx)
        cases hp'
        refine ⟨g, r * 2, rfl, hg', ?_, ?_⟩
        · rw [← h3]; congr 2; omega
        · rw [← h4]; congr 2; omega
      have HE1 : Hid (∀ W', Below W.heap.size W W' → CallsIn Fence.wide (n - 1) Try.prog 180 #[.slice (some ⟨g, r * 2, none⟩) (len - r) (c - r), .func (.yield lr) #[] #[]] W' fun e W'' => (∃ v, e = .returned v) ∧ (J zs W'' ∨ ∃ pre, pre <+: zs ∧ Jx pre W'')) := fun W' hb => hHE W' _ _ _ hb hl0 HPR
      clear hHE HE hprs hd hzs hl0 hll hrk hbg hg hnc hcm hcs htake e2 e3 hlm HPR
      refine callsIn_of_wp Try.func179 rfl trivial ?_ rfl
      simp only [Try.ntmps179, List.size_toArray, List.length_cons, List.length_nil, Nat.reduceAdd, Nat.reduceSub, Array.replicate_succ, Array.replicate_zero, List.push_toArray, List.append_toArray, List.nil_append, List.cons_append]
      gi_wp2
      gi_region_with (first | (refine ⟨trivial, ?_⟩; gi_at_call 181; refine (HLI.out _ (by assumption)).mono ?_; rintro e w' ⟨rfl, rfl⟩) | (refine ⟨trivial, ?_⟩; gi_at_call 90; refine (HRK.out _ (by assumption)).mono ?_; rintro e w1 ⟨rfl, hb1⟩) | (refine ⟨trivial, ?_⟩; gi_at_call 180; refine (HE1.out _ (by assumption)).mono ?_; rintro e w3 ⟨⟨v, rfl⟩, hor⟩))
      all_goals go_end0
      all_goals exact ⟨⟨_, rfl⟩, hor⟩
end Go.Proofs.Ytpnhklehpilopaa
