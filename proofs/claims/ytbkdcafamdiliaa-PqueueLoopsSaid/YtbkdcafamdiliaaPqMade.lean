/- The queue that the laws are about, and what they keep beside it. -/
import Derived.Test.YtbkdcafamdiliaaPqWant
import Derived.Test.YtbkdcafamdiliaaPqHoldS
namespace Go.Proofs.Ytbkdcafamdiliaa
open Go Go.RowKit

/-- The priorities as strings. -/
def lm (m : Nat → Option Nat) : Nat → Option ByteArray := fun k => (m k).map ltr
/-- .. and as what is wanted. -/
def wv : Option Nat → Int
  | none => -1
  | some p => (p : Int)

theorem lm_set (m : Nat → Option Nat) (k : Nat) (o : Option Nat) : lm (mSet m k o) = mSet (lm m) k (o.map ltr) := by
  funext i
  unfold lm mSet
  split <;> rfl
theorem mSet_same {α : Type} {m : Nat → Option α} {k : Nat} {o : Option α} (h : m k = o) : mSet m k o = m := by
  funext i
  unfold mSet
  split
  · subst_vars; rfl
  · rfl
theorem lm_none {m : Nat → Option Nat} {k : Nat} (h : m k = none) : lm m k = none := by simp [lm, h]
theorem lm_some {m : Nat → Option Nat} {k p : Nat} (h : m k = some p) : lm m k = some (ltr p) := by simp [lm, h]
theorem cnt_lm (n : Nat) (m : Nat → Option Nat) : cntQ n (lm m) = cntW n (fun k => wv (m k)) := by
  unfold cntQ cntW
  apply List.countP_congr
  intro k _
  cases h : m k with
  | none => simp [lm, h, wv]
  | some p => simp [lm, h, wv]

/-- The turns that a law is given. -/
def TurnsAt (w : World) (N : Nat) (a : Option Addr) (xs : List (Bool × Nat × Nat)) : Prop :=
  ∀ j x, xs[j]? = some x → (∃ g o, a = some ⟨g, o, none⟩ ∧ g < N ∧ w.cell? ⟨g, o + j * 3, none⟩ = some (.bool x.1) ∧ w.cell? ⟨g, o + j * 3 + 1, none⟩ = some (.int .u8 (x.2.1 : Nat)) ∧ w.cell? ⟨g, o + j * 3 + 2, none⟩ = some (.int .u8 (x.2.2 : Nat))) ∧
    x.2.1 ≤ 255 ∧ x.2.2 ≤ 255

theorem TurnsAt.below {w w' : World} {N : Nat} {a : Option Addr} {xs : List (Bool × Nat × Nat)} (h : TurnsAt w N a xs) (hb : Below N w w') : TurnsAt w' N a xs := fun j x hx => by
  obtain ⟨⟨g, o, ha, hg, h1, h2, h3⟩, hr⟩ := h j x hx
  exact ⟨⟨g, o, ha, hg, (hb.cell (p := ⟨g, o + j * 3, none⟩) hg).trans h1, (hb.cell (p := ⟨g, o + j * 3 + 1, none⟩) hg).trans h2, (hb.cell (p := ⟨g, o + j * 3 + 2, none⟩) hg).trans h3⟩, hr⟩

/-- Block b is a queue for n ids, block b + 1 has what it should have; nothing else that there was has changed. -/
structure Made (w W : World) (b n : Nat) (m : Nat → Option Nat) : Prop where
  q : QHS W (b + 2) b n (lm m)
  want : WA W (b + 1) n (fun k => wv (m k))
  low : Below b w W
  small : ∀ k p, m k = some p → p ≤ 255

theorem Made.below {w W W' : World} {b n : Nat} {m : Nat → Option Nat} (h : Made w W b n m) (hb : Below W.heap.size W W') : Made w W' b n m :=
  ⟨h.q.below hb, h.want.same (hb.block _ h.want.lt), h.low.trans (hb.mono (by have := h.q.2.1; omega)), h.small⟩

/-- The queue changed. -/
theorem Made.queue {w W W1 : World} {b n : Nat} {m : Nat → Option Nat} (h : Made w W b n m) (hc : Chg (b + 2) b W W1) : WA W1 (b + 1) n (fun k => wv (m k)) ∧ Below b w W1 :=
  ⟨h.want.same (hc.block _ (by omega) (by omega)), h.low.trans (by have := hc.below; rwa [Nat.min_eq_left (by omega)] at this)⟩

/-- The queue changed at one id, then what is wanted. -/
theorem Made.step {w W W1 : World} {b n k : Nat} {m : Nat → Option Nat} {o : Option Nat} (h : Made w W b n m) (hq : QHS W1 (b + 2) b n (mSet (lm m) k (o.map ltr))) (hc : Chg (b + 2) b W W1) {v : Int} (hv : v = wv o) (ho : ∀ p, o = some p → p ≤ 255) :
    Made w (W1.setCell ⟨b + 1, k, none⟩ (.int .i64 v)) b n (mSet m k o) := by
  subst hv
  obtain ⟨h1, h2⟩ := h.queue hc
  refine ⟨?_, ?_, h2.setCell (by show b ≤ b + 1; omega) _, fun i p hi => ?_⟩
  · rw [lm_set]
    exact hq.other (by simp [World.setCell]) (fun i _ hi => Below.heap_setCell _ _ _ _ (by show i ≠ b + 1; omega))
  · refine (h1.set k (wv o)).congr fun i _ => ?_
    unfold upd mSet
    split <;> rfl
  · unfold mSet at hi
    split at hi
    · exact ho p hi
    · exact h.small i p hi

/-- What stands while what is wanted is filled. -/
structure Fill (w W : World) (b n i : Nat) : Prop where
  q : QHS W (b + 2) b n (lm fun _ => none)
  want : WA W (b + 1) n (fun k => if k < i then -1 else 0)
  low : Below b w W

theorem Fill.next {w W : World} {b n i : Nat} (h : Fill w W b n i) : Fill w (W.setCell ⟨b + 1, i, none⟩ (.int .i64 (-1))) b n (i + 1) := by
  refine ⟨h.q.other (by simp [World.setCell]) (fun k _ hk => Below.heap_setCell _ _ _ _ (by show k ≠ b + 1; omega)), (h.want.set i (-1)).congr fun k _ => ?_, h.low.setCell (by show b ≤ b + 1; omega) _⟩
  unfold upd
  by_cases e : k = i
  · subst e; simp
  · by_cases e2 : k < i
    · simp [e, e2, show k < i + 1 by omega]
    · simp [e, e2, show ¬ k < i + 1 by omega]

theorem Fill.made {w W : World} {b n : Nat} (h : Fill w W b n n) : Made w W b n (fun _ => none) :=
  ⟨h.q, h.want.congr fun k hk => by simp [hk, wv], h.low, fun k p h => by cases h⟩

/-- What stands while the turns go on. -/
def MadeRel (w W : World) (b n : Nat) : Prop := ∃ m, Made w W b n m

set_option maxHeartbeats 3200000 in
set_option maxRecDepth 100000 in
theorem made_any (size : Nat) (hsz : size ≤ 255) (a : Option Addr) (len cap : Nat) (xs : List (Bool × Nat × Nat)) (hlen : xs.length = len) (hc63 : len ≤ 9223372036854775807) (w : World) (hX : TurnsAt w w.heap.size a xs) :
    Calls Try.prog 68 #[.int .u8 (size : Nat), .slice a len cap] w fun e w' => e = .returned (.tuple #[.pointer (some ⟨w.heap.size, 0, none⟩), .slice (some ⟨w.heap.size + 1, 0, none⟩) (1 + size % 50) (1 + size % 50)]) ∧ ∃ m, Made w w' w.heap.size (1 + size % 50) m := by
  obtain ⟨n, hn⟩ : ∃ n, n = 1 + size % 50 := ⟨_, rfl⟩
  have hn1 : 1 ≤ n := by omega
  have hn50 : n ≤ 50 := by omega
  have hnI : 1 + ((size : Int) % 50) = (n : Int) := by omega
  have hnew := newHS n hn1 (by omega) w
  have HX := Lib.hid hX
  have HLEN := Lib.hid hlen
  rw [← hn]
  obtain ⟨i0, hi, hz0, hz1, hz2⟩ := info_parts infoW
  clear hX hlen hn
  go_enter Try.func68, Try.ntmps68
  go_wp2_with fail
  refine hnew.mono ?_
  rintro e w1 ⟨rfl, hq, hb, hs⟩
  go_wp2_with (at_make; refine wpList_make_full _ rfl _ _ 53 rfl w1.heap.size 3 i0 (.int .i64 0) 1 Try.underlying53 hi hz0 hz1 _ _ _ _ n rfl rfl rfl rfl (by rw [hz2]; omega) (by unfold maxLen; omega) (Nat.le_refl _) ?_; intro w2 hown hg)
  have hF : Fill w w2 w.heap.size n 0 := by
    refine ⟨⟨by omega, by have := (wa_made hown).lt; omega, none, hq.same hg.size (hg.block _ (by omega) (by simp)) (fun a h => by cases h), fun a h => by cases h⟩, ?_, hb.grown hg (by omega) (fun r h => by cases h)⟩
    rw [← hs]
    exact (wa_made hown).congr fun k _ => rfl
  have HF := Lib.hid hF
  clear hq hb hs hown hg hF hi hz0 hz1 hz2 hnew
  go_loopw [10] (fun s wr => ∃ i : Nat, i ≤ n ∧ s = .int .i64 i ∧ Hid (Fill w wr w.heap.size n i)) (fun s _ => n - (intOf s).toNat)
  case atStart => exact ⟨0, by omega, rfl, HF⟩
  case round =>
    obtain ⟨i, hi, rfl, HR⟩ := hrel
    clear HF
    by_cases hlt : i < n
    · have hcell := HR.out.want.cell hlt
      have hfr := HR.out.want.frozen i
      have HN := Lib.hid HR.out.next
      clear HR
      go_wp2_with fail
      go_roundw
      case rel => exact ⟨i + 1, by omega, by go_num, HN⟩
      case measure => simp [intOf]; omega
    · obtain rfl : i = n := by omega
      have HM : Hid (MadeRel w wr w.heap.size i) := Lib.hid ⟨_, HR.out.made⟩
      clear HR hlt
      go_wp2_with fail
      obtain ⟨wA, hwA⟩ : ∃ wA, wA = wr := ⟨_, rfl⟩
      subst hwA
      go_loopw [11] (fun s wr => ∃ j : Nat, j ≤ len ∧ s = .int .i64 j ∧ Hid (MadeRel w wr w.heap.size i)) (fun s _ => len - (intOf s).toNat)
      case atStart => exact ⟨0, by omega, rfl, HM⟩
      case round =>
        obtain ⟨j, hj, rfl, HR⟩ := hrel
        clear HM
        obtain ⟨m, hM⟩ := HR.out
        by_cases hlt : j < len
        · obtain ⟨x, hx⟩ : ∃ x, xs[j]? = some x := ⟨_, List.getElem?_eq_getElem (by rw [HLEN.out]; exact hlt)⟩
          obtain ⟨⟨g, o, rfl, hg, c0, c1, c2⟩, hr1, hr2⟩ := (HX.out.below hM.low) j x hx
          obtain ⟨drop, id, pr⟩ := x
          simp only at c0 c1 c2 hr1 hr2
          obtain ⟨k, hk⟩ : ∃ k, k = id % i := ⟨_, rfl⟩
          have hki : k < i := by rw [hk]; exact Nat.mod_lt _ (by omega)
          have hkI : (id : Int) % (i : Int) = (k : Int) := by omega
          have hwc := hM.want.cell hki
          have hwf := hM.want.frozen k
          have HM := Lib.hid hM
          have hWr : ∀ W1, Chg (w.heap.size + 2) w.heap.size wr W1 → W1.cell? ⟨w.heap.size + 1, k, none⟩ = some (.int .i64 (wv (m k))) ∧ W1.frozen? ⟨w.heap.size + 1, k, none⟩ = false ∧ W1.cell? ⟨g, o + j * 3 + 2, none⟩ = some (.int .u8 (pr : Nat)) := fun W1 hc =>
            ⟨(HM.out.queue hc).1.cell hki, (HM.out.queue hc).1.frozen k, by
              have := hc.block g (by omega) (by omega)
              simp only [World.cell?, this]
              exact c2⟩
          have HWR := Lib.hid hWr
          clear hWr hx hk HR hM
          cases hmk : m k with
          | none =>
            have hd : decide ((0 : Int) ≤ -1) = false := rfl
            cases drop with
            | true =>
              have hrm := removeNoHS HM.out.q (k : Int) (fun _ => by rw [Int.toNat_natCast]; exact lm_none hmk)
              have HN : Hid (MadeRel w (wr.setCell ⟨w.heap.size + 1, k, none⟩ (.int .i64 (-1))) w.heap.size i) := Lib.hid ⟨_, HM.out.step (W1 := wr) (k := k) (o := none) (by rw [Option.map_none, mSet_same (lm_none hmk)]; exact HM.out.q) (Chg.refl _ _ _) rfl (fun p h => by cases h)⟩
              rw [hmk] at hwc
              simp only [wv] at hwc
              clear HM HWR hmk
              go_wp2_with fail
              refine hrm.mono ?_
              rintro e W1 ⟨rfl, rfl⟩
              go_wp2_with fail
              go_roundw
              case rel => exact ⟨j + 1, by omega, by go_num, HN⟩
              case measure => simp [intOf]; omega
            | false =>
              have HP : Hid (∀ W0, Below wr.heap.size wr W0 → Calls Try.prog 75 #[.pointer (some ⟨w.heap.size, 0, none⟩), .int .i64 (k : Nat), .string (ltr pr)] W0 fun e W1 => e = .returned (.int .i64 0) ∧ Hid (MadeRel w (W1.setCell ⟨w.heap.size + 1, k, none⟩ (.int .i64 (pr : Nat))) w.heap.size i) ∧ Hid (W1.cell? ⟨w.heap.size + 1, k, none⟩ = some (.int .i64 (wv (m k))) ∧ W1.frozen? ⟨w.heap.size + 1, k, none⟩ = false ∧ W1.cell? ⟨g, o + j * 3 + 2, none⟩ = some (.int .u8 (pr : Nat)))) := Lib.hid fun W0 hb0 => by
                refine (pushHS (HM.out.below hb0).q hki (lm_none hmk) (ltr pr)).mono ?_
                rintro e W1 ⟨he, h1, h2⟩
                exact ⟨he, Lib.hid ⟨_, (HM.out.below hb0).step (o := some pr) h1 h2 rfl (fun p h => by cases h; exact hr2)⟩, Lib.hid (HWR.out W1 ((Chg.of_below (hb0.mono HM.out.q.2.1)).trans h2))⟩
              have hlt1 := letter_any pr hr2 wr
              rw [hmk] at hwc
              simp only [wv] at hwc
              clear HM HWR
              go_wp2_with fail
              refine hlt1.mono ?_
              rintro e W0 ⟨rfl, hb0⟩
              go_wp2_with fail
              refine (HP.out W0 hb0).mono ?_
              rintro e W1 ⟨rfl, HN, HC⟩
              obtain ⟨d0, d1, d2⟩ := HC.out
              clear HP hlt1 hwc hwf c0 c1 c2
              go_wp2_with fail
              go_roundw
              case rel => exact ⟨j + 1, by omega, by go_num, HN⟩
              case measure => simp [intOf]; omega
          | some u =>
            have hu : (0 : Int) ≤ (u : Int) := by omega
            cases drop with
            | true =>
              have HP : Hid (Calls Try.prog 78 #[.pointer (some ⟨w.heap.size, 0, none⟩), .int .i64 (k : Nat)] wr fun e W1 => e = .returned (.tuple #[.string (ltr u), .bool true]) ∧ Hid (MadeRel w (W1.setCell ⟨w.heap.size + 1, k, none⟩ (.int .i64 (-1))) w.heap.size i) ∧ Hid (W1.cell? ⟨w.heap.size + 1, k, none⟩ = some (.int .i64 (wv (m k))) ∧ W1.frozen? ⟨w.heap.size + 1, k, none⟩ = false ∧ W1.cell? ⟨g, o + j * 3 + 2, none⟩ = some (.int .u8 (pr : Nat)))) := Lib.hid (by
                refine (removeHS HM.out.q (lm_some hmk)).mono ?_
                rintro e W1 ⟨he, h1, h2⟩
                exact ⟨he, Lib.hid ⟨_, HM.out.step (o := none) h1 h2 rfl (fun p h => by cases h)⟩, Lib.hid (HWR.out W1 h2)⟩)
              rw [hmk] at hwc
              simp only [wv] at hwc
              clear HM HWR
              go_wp2_with fail
              refine HP.out.mono ?_
              rintro e W1 ⟨rfl, HN, HC⟩
              obtain ⟨d0, d1, d2⟩ := HC.out
              clear HP hwc hwf c0 c1 c2
              go_wp2_with fail
              go_roundw
              case rel => exact ⟨j + 1, by omega, by go_num, HN⟩
              case measure => simp [intOf]; omega
            | false =>
              have HP : Hid (∀ W0, Below wr.heap.size wr W0 → Calls Try.prog 76 #[.pointer (some ⟨w.heap.size, 0, none⟩), .int .i64 (k : Nat), .string (ltr pr)] W0 fun e W1 => e = .returned (.int .i64 0) ∧ Hid (MadeRel w (W1.setCell ⟨w.heap.size + 1, k, none⟩ (.int .i64 (pr : Nat))) w.heap.size i) ∧ Hid (W1.cell? ⟨w.heap.size + 1, k, none⟩ = some (.int .i64 (wv (m k))) ∧ W1.frozen? ⟨w.heap.size + 1, k, none⟩ = false ∧ W1.cell? ⟨g, o + j * 3 + 2, none⟩ = some (.int .u8 (pr : Nat)))) := Lib.hid fun W0 hb0 => by
                refine (changeHS (HM.out.below hb0).q (lm_some hmk) (ltr pr)).mono ?_
                rintro e W1 ⟨he, h1, h2⟩
                exact ⟨he, Lib.hid ⟨_, (HM.out.below hb0).step (o := some pr) h1 h2 rfl (fun p h => by cases h; exact hr2)⟩, Lib.hid (HWR.out W1 ((Chg.of_below (hb0.mono HM.out.q.2.1)).trans h2))⟩
              have hlt1 := letter_any pr hr2 wr
              rw [hmk] at hwc
              have hwc' : wr.cell? ⟨w.heap.size + 1, k, none⟩ = some (.int .i64 (u : Nat)) := hwc
              clear HM HWR hwc
              go_wp2_with fail
              refine hlt1.mono ?_
              rintro e W0 ⟨rfl, hb0⟩
              go_wp2_with fail
              refine (HP.out W0 hb0).mono ?_
              rintro e W1 ⟨rfl, HN, HC⟩
              obtain ⟨d0, d1, d2⟩ := HC.out
              clear HP hlt1 hwc' hwf c0 c1 c2
              go_wp2_with fail
              go_roundw
              case rel => exact ⟨j + 1, by omega, by go_num, HN⟩
              case measure => simp [intOf]; omega
        · obtain rfl : j = len := by omega
          have HZ : Hid (MadeRel w wr w.heap.size i) := Lib.hid ⟨m, hM⟩
          clear hM HR
          go_wp2_with fail
          go_ret2
          exact ⟨rfl, HZ.out⟩
end Go.Proofs.Ytbkdcafamdiliaa
