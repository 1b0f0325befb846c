/- PqueueOrder: the walk. -/
import Derived.Test.YtbkdcafamdiliaaPqAllS
import Derived.Test.YtbkdcafamdiliaaPqMade
import Derived.Test.YtbkdcafamdiliaaPqWorks
import Derived.Test.YtbkdcafamdiliaaPqRow0
import Derived.Deep.QuietTactic
import Derived.BigQuiet
import Derived.Outline
import Derived.Maps.AppendAt
namespace Go.Proofs.Ytbkdcafamdiliaa
open Go Go.RowKit

attribute [local go_sem] Oper.semAt_some

/-- What is wanted when the first i ids have come out. -/
def fW (m : Nat → Option Nat) (l : List (Nat × ByteArray)) (i : Nat) : Nat → Int := fun k => if (mAt (lm m) l i k).isSome then wv (m k) else -1

theorem fW_zero (m : Nat → Option Nat) (l : List (Nat × ByteArray)) : fW m l 0 = fun k => wv (m k) := by
  funext k
  unfold fW
  rw [mAt_zero]
  cases h : m k with
  | none => simp [lm, h, wv]
  | some p => simp [lm, h]

theorem fW_succ (m : Nat → Option Nat) {l : List (Nat × ByteArray)} {i : Nat} {x : Nat × ByteArray} (h : l[i]? = some x) : fW m l (i + 1) = upd (fW m l i) x.1 (-1) := by
  funext k
  unfold fW upd
  rw [mAt_succ _ h]
  unfold mSet
  by_cases e : k = x.1
  · rw [if_pos e, if_pos e]; rfl
  · rw [if_neg e, if_neg e]

theorem fW_at {m : Nat → Option Nat} {l : List (Nat × ByteArray)} (hD : Drn ltS (lm m) l) {i : Nat} {x : Nat × ByteArray} (h : l[i]? = some x) : ∃ pr, m x.1 = some pr ∧ x.2 = ltr pr ∧ fW m l i x.1 = (pr : Int) := by
  have h1 := hD.mem h
  unfold lm at h1
  cases hm : m x.1 with
  | none => rw [hm] at h1; cases h1
  | some pr =>
    rw [hm] at h1
    refine ⟨pr, rfl, (Option.some.inj h1).symm, ?_⟩
    unfold fW
    rw [(hD.fst h).1, hm]
    rfl

theorem fW_done {m : Nat → Option Nat} {l : List (Nat × ByteArray)} (hD : Drn ltS (lm m) l) : fW m l l.length = fun _ => -1 := by
  funext k
  unfold fW
  rw [hD.done k]
  rfl

theorem cntW_none (n : Nat) : cntW n (fun _ => -1) = 0 := by
  unfold cntW
  rw [List.countP_eq_zero]
  intro k _
  simp

/-- What stands while the ids come out: the queue when i have, what is wanted when j have; all that lay from S on in Y. -/
structure OSt (w Y W : World) (S n : Nat) (p : Option Addr) (m : Nat → Option Nat) (l : List (Nat × ByteArray)) (i j : Nat) : Prop where
  q : PQS W 0 w.heap.size p n (mAt (lm m) l i)
  want : WA W (w.heap.size + 1) n (fW m l j)
  low : Below w.heap.size w W
  keep : ∀ k, S ≤ k → k < Y.heap.size → W.heap[k]? = Y.heap[k]?
  size : Y.heap.size ≤ W.heap.size

theorem OSt.below {w Y W W' : World} {S n : Nat} {p : Option Addr} {m : Nat → Option Nat} {l : List (Nat × ByteArray)} {i j : Nat} (h : OSt w Y W S n p m l i j) (hb : Below W.heap.size W W') : OSt w Y W' S n p m l i j :=
  ⟨h.q.below hb, h.want.same (hb.block _ h.want.lt), h.low.trans (hb.mono (by have := h.q.lt; omega)), fun k h1 h2 => (hb.block k (Nat.lt_of_lt_of_le h2 h.size)).trans (h.keep k h1 h2), Nat.le_trans h.size hb.size⟩

theorem OSt.pop {w Y W W' : World} {S n : Nat} {p : Option Addr} {m : Nat → Option Nat} {l : List (Nat × ByteArray)} {i i' j : Nat} (h : OSt w Y W S n p m l i j) (hS : w.heap.size + 2 ≤ S) (hp : ∀ a, p = some a → w.heap.size + 2 ≤ a.block ∧ a.block < S) (hq : PQS W' 0 w.heap.size p n (mAt (lm m) l i')) (ht : Touch w.heap.size p W W') : OSt w Y W' S n p m l i' j := by
  refine ⟨hq, h.want.same (ht.block _ h.want.lt (by omega) (fun a ha => by have := hp a ha; omega)), ⟨ht.os.trans h.low.os, ht.tape.trans h.low.tape, ht.output.trans h.low.output, Nat.le_trans h.low.size ht.size, fun k hk => (ht.block k (by have := h.q.lt; omega) (by omega) (fun a ha => by have := hp a ha; omega)).trans (h.low.block k hk)⟩, fun k h1 h2 => (ht.block k (Nat.lt_of_lt_of_le h2 h.size) (by omega) (fun a ha => by have := hp a ha; omega)).trans (h.keep k h1 h2), Nat.le_trans h.size ht.size⟩

theorem OSt.set {w Y W : World} {S n : Nat} {p : Option Addr} {m : Nat → Option Nat} {l : List (Nat × ByteArray)} {i j : Nat} (h : OSt w Y W S n p m l i j) (hS : w.heap.size + 2 ≤ S) (hp : ∀ a, p = some a → w.heap.size + 2 ≤ a.block ∧ a.block < S) {x : Nat × ByteArray} (hx : l[j]? = some x) :
    OSt w Y (W.setCell ⟨w.heap.size + 1, x.1, none⟩ (.int .i64 (-1))) S n p m l i (j + 1) := by
  have hset : ∀ k, k ≠ w.heap.size + 1 → (W.setCell ⟨w.heap.size + 1, x.1, none⟩ (.int .i64 (-1))).heap[k]? = W.heap[k]? := fun k hk => Below.heap_setCell _ _ _ _ hk
  refine ⟨h.q.same (by simp [World.setCell]) (hset _ (by omega)) (fun a ha => hset _ (by have := hp a ha; omega)), ?_, h.low.setCell (by show w.heap.size ≤ w.heap.size + 1; omega) _, fun k h1 h2 => (hset k (by omega)).trans (h.keep k h1 h2), by simpa [World.setCell] using h.size⟩
  rw [fW_succ m hx]
  exact h.want.set _ _

set_option maxHeartbeats 800000 in
set_option maxRecDepth 100000 in
theorem allMakeS (v' : Option Addr) (W : World) :
    Calls Try.prog 71 #[.pointer v'] W fun e w' => e = .returned (.func (.func 164) #[] #[.pointer (some ⟨W.heap.size, 0, none⟩)]) ∧ w' = W.alloc (.cells #[.pointer v'] 124) := by
  go_enter Try.func71, Try.ntmps71
  go_wp2
  go_ret
  exact ⟨rfl, rfl⟩

/-- The order of neighbours, as the law asks for it. -/
theorem next_order {x y : Nat × ByteArray} (h : befQ ltS x y = false) (hne : x.1 ≠ y.1) : (y.2 = x.2 ∧ y.1 < x.1) ∨ (Op.bytesLess y.2.toList x.2.toList = true ∧ (y.2.toList == x.2.toList) = false) := by
  unfold befQ at h
  simp only [Bool.or_eq_false_iff] at h
  obtain ⟨h1, h2⟩ := h
  by_cases e : y.2 = x.2
  · left
    refine ⟨e, ?_⟩
    rw [e, ordS.irr] at h2
    simp at h2
    omega
  · right
    have h3 : ltS y.2 x.2 = true := by
      cases h4 : ltS y.2 x.2 with
      | true => rfl
      | false => exact absurd (ordS.tot _ _ h4 h1) e
    refine ⟨h3, ?_⟩
    rw [beq_eq_false_iff_ne]
    exact fun e2 => e (toList_inj e2)

/-- The id that came before the place i. -/
def lastV (l : List (Nat × ByteArray)) (i : Nat) : Value := if i = 0 then .int .i64 (-1) else .int .i64 ((pickS l (i - 1)).1 : Nat)

theorem lastV_succ {l : List (Nat × ByteArray)} {j : Nat} {y : Nat × ByteArray} (h : l[j]? = some y) : lastV l (j + 1) = .int .i64 (y.1 : Nat) := by
  unfold lastV
  rw [if_neg (by omega), Nat.add_sub_cancel, pickS_at h]

theorem infoInt4 : (Try.prog.info? 3).map (fun i => (i.zero, i.size, i.bytes)) = some (some (.int .i64 0), 1, 8) := by kernel_rfl
theorem infoStr4 : (Try.prog.info? 9).map (fun i => (i.zero, i.size, i.bytes)) = some (some (.string ⟨#[]⟩), 1, 16) := by kernel_rfl

/-- The ids, the priorities of what has come. -/
def idsOf (l : List (Nat × ByteArray)) (pre : List Nat) : List Value := pre.map fun i => Value.int .i64 ((pickS l i).1 : Nat)
def psOf (l : List (Nat × ByteArray)) (pre : List Nat) : List Value := pre.map fun i => Value.string (pickS l i).2

/-- What stands while the loop over All goes on: both slices in their boxes, their rows from hi on; all else of X. -/
structure OIn (X W : World) (S hi : Nat) (l : List (Nat × ByteArray)) (pre : List Nat) : Prop where
  ids : ∃ v, Boxed W S 53 v ∧ W.ownsRow hi 3 1 v pre.length (idsOf l pre)
  ps : ∃ u, Boxed W (S + 1) 128 u ∧ W.ownsRow hi 9 1 u pre.length (psOf l pre)
  os : W.os = X.os
  tape : W.tape = X.tape
  output : W.output = X.output
  size : X.heap.size ≤ W.heap.size
  hiw : hi ≤ W.heap.size
  block : ∀ k, k < X.heap.size → k ≠ S → k ≠ S + 1 → W.heap[k]? = X.heap[k]?

theorem OIn.step {X W C : World} {S hi : Nat} {l : List (Nat × ByteArray)} {pre : List Nat} (h : OIn X W S hi l pre) (hS : S + 1 < X.heap.size) (hs : OwnStep X.heap.size hi W C) : OIn X C S hi l pre := by
  obtain ⟨⟨v, h1, h2⟩, ⟨u, h3, h4⟩, h5, h6, h7, h8, h10, h9⟩ := h
  exact ⟨⟨v, boxed_step h1 (by omega) hs, ownsRow_step h2 (Nat.le_refl _) hs⟩, ⟨u, boxed_step h3 (by omega) hs, ownsRow_step h4 (Nat.le_refl _) hs⟩, hs.os.trans h5, hs.tape.trans h6, hs.output.trans h7, Nat.le_trans h8 hs.size, Nat.le_trans h10 hs.size, fun k hk k1 k2 => (hs.block k (by omega) (.inl hk)).trans (h9 k hk k1 k2)⟩

set_option maxHeartbeats 8000000 in
set_option maxRecDepth 100000 in
theorem order_in (N : Nat) (hN : 10 ≤ N) (size : Nat) (hsz : size ≤ 255) (a : Option Addr) (len cap : Nat) (xs : List (Bool × Nat × Nat)) (hlen : xs.length = len) (hc63 : len ≤ 9223372036854775807) (w : World) (hX : TurnsAt w w.heap.size a xs) (h200 : ¬ 200 < len) :
    CallsIn Fence.wide N Try.prog 10 #[.int .u8 (size : Nat), .slice a len cap] w fun e w' => e = .returned (.bool true) ∧ Below w.heap.size w w' := by
  have h1 : 1 ≤ N := by omega
  have hmade := made_any size hsz a len cap xs hlen hc63 w hX
  have hd : decide ((200 : Int) < (len : Int)) = false := decide_eq_false (by omega)
  have hd2 : ¬ (200 : Int) < (len : Int) := by omega
  generalize hn : 1 + size % 50 = n at *
  have hn1 : 1 ≤ n := by omega
  have hn50 : n ≤ 50 := by omega
  clear hn h200 hX hlen
  refine callsIn_of_wp_marks Try.func10 rfl trivial ?_ rfl
  simp only [Try.ntmps10, List.size_toArray, List.length_nil, List.length_cons, Nat.reduceAdd, Nat.reduceSub, Array.replicate_succ, Array.replicate_zero, List.push_toArray, List.append_toArray, List.nil_append, List.cons_append]
  gi_wp2_with fail
  refine ⟨trivial, (callsIn_wide.2 hmade).mono ?_⟩
  rintro e W1 ⟨rfl, m, hM⟩
  obtain ⟨q1, q2, p, q3, q4⟩ := hM.q
  obtain ⟨l, hD⟩ := drn_ex ordS n _ (lm m) (fun k hk => q3.low hk) rfl
  have hlen := hD.len (fun k hk => q3.low hk)
  have hlq := lenS q3
  have hct := count_any hM.want (by omega)
  rw [← cnt_lm] at hct
  rw [← hlen] at hlq hct
  have hcl : l.length ≤ 1024 := by rw [hlen]; exact q3.cnt
  have HM := Lib.hid hM
  have HSM : Hid (∀ k p, m k = some p → p ≤ 255) := Lib.hid hM.small
  have HQ := Lib.hid (And.intro q2 (And.intro q3 q4))
  have HD := Lib.hid hD
  clear q1 q2 q3 q4 hM hmade hlen hD
  gi_wp2_with (first | (refine ⟨trivial, ?_⟩; gi_at_call 69; refine (callsIn_wide.2 hlq).mono ?_; rintro e w2 ⟨rfl, hw2⟩; rw [hw2]) | (refine ⟨trivial, ?_⟩; gi_at_call 70; refine (callsIn_wide.2 hct).mono ?_; rintro e w2 ⟨rfl, hw2⟩; rw [hw2]))
  refine ⟨trivial, (callsIn_wide.2 (allMakeS _ _)).mono ?_⟩
  rintro e W2 ⟨rfl, rfl⟩
  gi_wp2_with fail
  obtain ⟨S, hS⟩ : ∃ S, S = W1.heap.size := ⟨_, rfl⟩
  obtain ⟨X, hX⟩ : ∃ X, X = ((W1.alloc (.cells #[.slice none 0 0] 53)).alloc (.cells #[.slice none 0 0] 128)).alloc (.cells #[.pointer (some ⟨w.heap.size, 0, none⟩)] 124) := ⟨_, rfl⟩
  have hXs : X.heap.size = S + 3 := by rw [hX, hS]; simp
  have hXb : Below S W1 X := by rw [hX, hS]; exact (((Below.refl _ _).alloc (Nat.le_refl _) _).alloc (by simp) _).alloc (by simp; omega) _
  have bF : Boxed X S 53 (.slice none 0 0) := by rw [hX]; exact ((boxed_at4 hS.symm _ _).alloc _).alloc _
  have bG : Boxed X (S + 1) 128 (.slice none 0 0) := by rw [hX]; exact (boxed_at4 (by simp [hS]) _ _).alloc _
  have bA : Boxed X (S + 1 + 1) 124 (.pointer (some ⟨w.heap.size, 0, none⟩)) := by rw [hX]; exact boxed_at4 (by simp [hS]) _ _
  have hqX : PQS X 0 w.heap.size p n (lm m) := HQ.out.2.1.below (by rw [← hS]; exact hXb)
  have hpS : ∀ a, p = some a → w.heap.size + 2 ≤ a.block ∧ a.block < S := fun a ha => ⟨HQ.out.2.2 a ha, by rw [hS]; exact (HQ.out.2.1.own ha).2.1⟩
  have hwS : w.heap.size + 2 ≤ S := by rw [hS]; exact HQ.out.1
  have hwantX : WA X (w.heap.size + 1) n (fun k => wv (m k)) := HM.out.want.same (hXb.block _ (by omega))
  have hlowX : Below w.heap.size w X := HM.out.low.trans (hXb.mono (by omega))
  have HX := Lib.hid (And.intro hqX (And.intro hwantX hlowX))
  rw [← hX, ← hS]
  clear hX hqX hwantX hlowX hXb
  clear hS HQ HM hlq hct
  obtain ⟨i0, hi0, hz0, hz1, hz2⟩ := info_parts infoInt4
  obtain ⟨s0, hs0, hy0, hy1, hy2⟩ := info_parts infoStr4
  have hseq := allOwnS (N - 1) (by omega) (S + 1 + 1) HD.out X bA.cell HX.out.1
  refine rangeOwn (encs := fun i => encPS (pickS l i)) (fun x T => (((T.setIfInBounds 40 (.int .i64 ((pickS l x).1 : Nat))).setIfInBounds 41 (.string (pickS l x).2)).setIfInBounds 9 (.int .i64 ((pickS l x).1 : Nat))).setIfInBounds 10 (.string (pickS l x).2)) rfl h1 (gf := 164) (lb := #[.pointer (some ⟨S + 1 + 1, 0, none⟩)]) rfl trivial (enters_of Try.func164 (by kernel_rfl) rfl)
    hseq (Below.refl _ _) (fun _ => rfl) (fun hi pre W => OIn X W S hi l pre) (fun _ _ _ _ => False) (fun hi s A C h _ hs => h.step (by omega) hs) (fun _ _ _ _ _ h _ _ => h)
    (fun A hA _ => ⟨⟨_, (hA.block S (by omega)).trans bF, World.ownsRow_nil _ _ _ _⟩, ⟨_, (hA.block (S + 1) (by omega)).trans bG, World.ownsRow_nil _ _ _ _⟩, hA.os, hA.tape, hA.output, hA.size, Nat.le_refl _, fun k hk _ _ => hA.block k hk⟩) ?assign1 ?body1 ?done1 ?stop1
  case assign1 =>
    intro lr x W K hK
    unfold encPS
    gi_wp2
    exact hK
  case stop1 => exact fun _ _ _ _ _ _ _ _ h _ => h.elim
  case body1 =>
    intro lr hi pre x W hhi hO hlt
    obtain ⟨⟨v, hv, hrow⟩, ⟨u, hu, hur⟩, h5, h6, h7, h8, h10, h9⟩ := hO
    obtain ⟨fp, fc, rfl, hfc, hfc63⟩ := ownsRow_slice4 hrow
    obtain ⟨gp, gc, rfl, hgc, hgc63⟩ := ownsRow_slice4 hur
    have hc := hv.cell
    have HF : Hid (∀ W2 : World, (∃ v, Boxed W2 S 53 v ∧ W2.ownsRow hi 3 1 v (pre.length + 1) (idsOf l pre ++ [Value.int .i64 ((pickS l x).1 : Nat)])) → (∃ u, Boxed W2 (S + 1) 128 u ∧ W2.ownsRow hi 9 1 u (pre.length + 1) (psOf l pre ++ [Value.string (pickS l x).2])) →
        W2.os = W.os → W2.tape = W.tape → W2.output = W.output → W.heap.size ≤ W2.heap.size → (∀ k, k < X.heap.size → k ≠ S → k ≠ S + 1 → W2.heap[k]? = W.heap[k]?) → OIn X W2 S hi l (pre ++ [x])) := Lib.hid fun W2 e1 e2 e3 e4 e5 e6 e7 => by
      refine ⟨?_, ?_, e3.trans h5, e4.trans h6, e5.trans h7, Nat.le_trans h8 e6, Nat.le_trans h10 e6, fun k hk k1 k2 => (e7 k hk k1 k2).trans (h9 k hk k1 k2)⟩
      · simpa [idsOf] using e1
      · simpa [psOf] using e2
    have hXW : X.heap.size ≤ W.heap.size := h8
    have hpl : pre.length < 1024 := by omega
    clear h5 h6 h7 h8 h9
    simp only [List.setIfInBounds_toArray, List.set_cons_succ, List.set_cons_zero]
    generalize (pickS l x).1 = xi at *
    generalize (pickS l x).2 = xp at *
    gi_wp2_with (first
      | (gi_at_builtin; refine wpListIn_append_own _ rfl _ _ 128 rfl hi 9 s0 (.string ⟨#[]⟩) 1 16 Try.underlying128 hs0 hy0 hy1 hy2 rfl (by decide) _ _ _ rfl (hur1.alloc _) ⟨w1.heap.size, 0, none⟩ 1 1 [.string xp] rfl rfl (cell_one_set w1 _ _ _ _) (by simp [Value.oneCell']) (by unfold maxLen; omega) (by omega) (by simp only [World.size_alloc, size_setCell4]; have := hG.size; rw [size_setCell4] at this; omega) ?_; intro v2 w3 hown2 hgrow2 _; obtain ⟨g2, cap2, rfl⟩ := ownsRow_succ hown2; have hG2 := grew hu1 (by decide) hur1 hown2 hgrow2; have hc3 := hG2.box1.cell; have hf3 := hG2.box1.frozen)
      | (gi_at_builtin; refine wpListIn_append_own _ rfl _ _ 53 rfl hi 3 i0 (.int .i64 0) 1 8 Try.underlying53 hi0 hz0 hz1 hz2 rfl (by decide) _ _ _ rfl (hrow.alloc _) ⟨W.heap.size, 0, none⟩ 1 1 [.int .i64 (xi : Nat)] rfl rfl (cell_one_new _ _ _) (by simp [Value.oneCell']) (by unfold maxLen; omega) (by omega) (by simp only [World.size_alloc]; omega) ?_; intro v' w1 hown' hgrow _; obtain ⟨g', cap', rfl⟩ := ownsRow_succ hown'; have hG := grew hv (by decide) hrow hown' hgrow; have hc1 := hG.box1.cell; have hf1 := hG.box1.frozen; have hu1 := hG.boxOther hu (by omega) (by omega); have hur1 := hG.rowOther hrow (by omega) hur (by decide); have hcu := hu1.cell; have hsz1 := hG.size))
    refine ⟨(hG.keeps (by omega)).trans (hG2.keeps (by omega)), ?_⟩
    refine HF.out _ ⟨_, hG2.boxOther hG.box (by omega) (by omega), hG2.rowOther hur1 (by omega) hG.row (by decide)⟩ ⟨_, hG2.box, hG2.row⟩ (hG2.os.trans hG.os) (hG2.tape.trans hG.tape) (hG2.output.trans hG.output) (Nat.le_trans hG.size hG2.size) (fun k hk k1 k2 => (hG2.lowBlock (by omega) (by have := hG.size; omega) k2).trans (hG.lowBlock (by omega) (by omega) k1))
  case done1 =>
    rintro D hi ys Y hDX hDh rfl hO hK
    obtain ⟨⟨v, hv, hrow⟩, ⟨u, hu, hur⟩, h5, h6, h7, h8, h10, h9⟩ := hO
    rw [List.length_range] at hrow hur
    obtain ⟨fp, fc, rfl, hfc, hfc63⟩ := ownsRow_slice4 hrow
    obtain ⟨gp, gc, rfl, hgc, hgc63⟩ := ownsRow_slice4 hur
    have hlowY : ∀ k, k < S → Y.heap[k]? = X.heap[k]? := fun k hk => h9 k (by omega) (by omega) (by omega)
    have hYX : Below S X Y := ⟨h5, h6, h7, h8, hlowY⟩
    have hO0 : OSt w Y Y S n p m l 0 0 := by
      refine ⟨?_, ?_, HX.out.2.2.trans (hYX.mono (by omega)), fun _ _ _ => rfl, Nat.le_refl _⟩
      · exact HX.out.1.same h8 (hlowY _ (by omega)) (fun a ha => hlowY _ (by have := hpS a ha; omega))
      · rw [fW_zero]
        exact HX.out.2.1.same (hlowY _ (by omega))
    have hids : ∀ j x, l[j]? = some x → ∃ g, fp = some ⟨g, 0, none⟩ ∧ S ≤ g ∧ g < Y.heap.size ∧ Y.cell? ⟨g, j, none⟩ = some (.int .i64 (x.1 : Nat)) := fun j x hx => by
      have hj := (List.getElem?_eq_some_iff.1 hx).1
      obtain ⟨g, e1, e2, e3, e4⟩ := ownsRow_at4 hrow (j := j) (u := .int .i64 (x.1 : Nat)) (by simp [idsOf, hj, pickS_at hx])
      exact ⟨g, e1, by omega, e3, e4⟩
    have hpss : ∀ j x, l[j]? = some x → ∃ g, gp = some ⟨g, 0, none⟩ ∧ S ≤ g ∧ g < Y.heap.size ∧ Y.cell? ⟨g, j, none⟩ = some (.string x.2) := fun j x hx => by
      have hj := (List.getElem?_eq_some_iff.1 hx).1
      obtain ⟨g, e1, e2, e3, e4⟩ := ownsRow_at4 hur (j := j) (u := .string x.2) (by simp [psOf, hj, pickS_at hx])
      exact ⟨g, e1, by omega, e3, e4⟩
    have hSY : S + 1 < Y.heap.size := by omega
    -- what stands from S on is read as in Y
    have hrd : ∀ W, OSt w Y W S n p m l 0 0 ∨ True → True := fun _ _ => trivial
    have hlenQ : ∀ q, Calls Try.prog 69 #[.pointer (some ⟨w.heap.size, 0, none⟩)] (Y.drewN q) fun e w' => e = .returned (.int .i64 (l.length : Nat)) ∧ w' = Y.drewN q := fun q => by
      have h := lenS (HX.out.1.same (W' := Y.drewN q) h8 (hlowY _ (by omega)) (fun a ha => hlowY _ (by have := hpS a ha; omega)))
      rw [← HD.out.len (fun k hk => HX.out.1.low hk)] at h
      exact h
    have hxn : ∀ (j : Nat) (x : Nat × ByteArray), l[j]? = some x → x.1 < n := fun j x hx => by
      have h := HD.out.mem hx
      rcases Nat.lt_or_ge x.1 n with h2 | h2
      · exact h2
      · rw [HX.out.1.low h2] at h; cases h
    have HIDS := Lib.hid hids
    have HPSS := Lib.hid hpss
    have HO0 := Lib.hid hO0
    have HV := Lib.hid hv
    have HU := Lib.hid hu
    have HK := Lib.hid hK
    have HLQ := Lib.hid hlenQ
    have HXN := Lib.hid hxn
    have hcv := hv.cell
    have hDY : D < Y.heap.size := (Array.getElem?_eq_some_iff.1 hK).1
    clear hids hpss hO0 hv hu hK hlenQ hxn hrow hur hlowY hYX h5 h6 h7 h9 hrd hseq hi0 hs0
    gi_wp2_with fail
    refine wpIn_wide.2 ?_
    go_quiet ((go_at_call 69; exact Calls.quiet_of_same (HLQ.out _)))
    have hO1 := HO0.out.below (Below.drewN' nq (Below.refl _ _))
    have HO1 := Lib.hid hO1
    generalize Y.drewN nq = Z at *
    clear hO1 HO0 hcv
    have HBX : Hid (∀ W i j, OSt w Y W S n p m l i j → W.cell? ⟨S, 0, none⟩ = some (.slice fp l.length fc) ∧ W.cell? ⟨S + 1, 0, none⟩ = some (.slice gp l.length gc) ∧ W.heap[D]? = some (.deferred (some []))) := Lib.hid fun W i j h => by
      have e1 : Boxed W S 53 (.slice fp l.length fc) := (h.keep S (Nat.le_refl _) (by omega)).trans HV.out
      have e2 : Boxed W (S + 1) 128 (.slice gp l.length gc) := (h.keep (S + 1) (by omega) (by omega)).trans HU.out
      exact ⟨e1.cell, e2.cell, (h.keep D (by omega) hDY).trans HK.out⟩
    have HRD : Hid (∀ W i j k x, OSt w Y W S n p m l i j → l[k]? = some x → (∃ g, fp = some ⟨g, 0, none⟩ ∧ W.cell? ⟨g, k, none⟩ = some (.int .i64 (x.1 : Nat))) ∧ (∃ g, gp = some ⟨g, 0, none⟩ ∧ W.cell? ⟨g, k, none⟩ = some (.string x.2))) := Lib.hid fun W i j k x h hx => by
      obtain ⟨g, e1, e2, e3, e4⟩ := HIDS.out k x hx
      obtain ⟨g', f1, f2, f3, f4⟩ := HPSS.out k x hx
      refine ⟨⟨g, e1, ?_⟩, ⟨g', f1, ?_⟩⟩
      · have := h.keep g e2 e3
        simp only [World.cell?, this]
        exact e4
      · have := h.keep g' f2 f3
        simp only [World.cell?, this]
        exact f4
    have HPOP : Hid (∀ W k j, k ≤ l.length → OSt w Y W S n p m l k j → Calls Try.prog 72 #[.pointer (some ⟨w.heap.size, 0, none⟩)] W fun e w' => e = .returned (.tuple #[(popAtS l k).1, (popAtS l k).2.1, (popAtS l k).2.2]) ∧ (k < l.length → OSt w Y w' S n p m l (k + 1) j) ∧ (l.length = k → OSt w Y w' S n p m l k j)) := Lib.hid fun W k j hk h => by
      refine (popDrnS HD.out hk h.q).mono ?_
      rintro e w' ⟨he, e1, e2, e3⟩
      exact ⟨he, fun hlt => h.pop hwS hpS (e1 hlt) e2, fun hl => h.below (e3 hl)⟩
    clear HV HU HK HIDS HPSS HLQ
    gi_wp2_with fail
    gi_loopw [11, 12] (fun a b wr => ∃ i : Nat, i ≤ l.length ∧ a = lastV l i ∧ b = .int .i64 i ∧ Hid (OSt w Y wr S n p m l i i)) (fun _ b _ => l.length - (intOf b).toNat)
    case atStart => exact ⟨0, Nat.zero_le _, rfl, rfl, HO1⟩
    case round =>
      obtain ⟨i, hi, rfl, rfl, HR⟩ := hrel
      clear HO1
      obtain ⟨b1, b2, b3⟩ := HBX.out _ _ _ HR.out
      by_cases hlt : i < l.length
      · obtain ⟨x, hx⟩ : ∃ x, l[i]? = some x := ⟨_, List.getElem?_eq_getElem hlt⟩
        have hpop := HPOP.out _ _ _ hi HR.out
        rw [popAtS_some hx] at hpop
        obtain ⟨pr, hm1, hm2, hm3⟩ := fW_at HD.out hx
        have hpr := HSM.out _ _ hm1
        have hxlt := HXN.out i x hx
        have HX1 := Lib.hid hx
        have hltI : (i : Int) < (l.length : Int) := by omega
        clear HR
        gi_wp2_with fail
        refine ⟨trivial, (callsIn_wide.2 hpop).mono ?_⟩
        rintro e V1 ⟨rfl, hq1, -⟩
        have hO := hq1 hlt
        clear hpop hq1 b1 b2 b3
        obtain ⟨b1, b2, b3⟩ := HBX.out _ _ _ hO
        obtain ⟨⟨g, rfl, c1⟩, ⟨g', rfl, c2⟩⟩ := HRD.out _ _ _ _ _ hO hx
        have cw := hO.want.cell hxlt
        rw [hm3] at cw
        have hlet := fun W => letter_any pr hpr W
        rw [hm2] at c2
        have hwr : IntKind.u8.wrap (pr : Int) = (pr : Int) := by
          have e : IntKind.u8.wrap (pr : Int) = (pr : Int) % 256 := by simp [IntKind.wrap, IntKind.bits, IntKind.signed]
          rw [e]; omega
        have hxx : ((ltr pr).toList == (ltr pr).toList) = true := beq_self_eq_true _
        rw [hm2]
        have HLET := Lib.hid hlet
        have HO := Lib.hid hO
        clear hO hlet hm1 hm3
        have HSET : Hid (∀ W, OSt w Y W S n p m l (i + 1) i → OSt w Y (W.setCell ⟨w.heap.size + 1, x.1, none⟩ (.int .i64 (-1))) S n p m l (i + 1) (i + 1)) := Lib.hid fun W h => h.set hwS hpS hx
        have hln := lastV_succ hx
        cases i with
        | zero =>
          rw [show lastV l 0 = .int .i64 (-1) from rfl]
          rw [show ((0 : Nat) : Int) = 0 from rfl] at *
          clear hx
          gi_wp2_with (refine ⟨trivial, ?_⟩; gi_at_call 73; refine (callsIn_wide.2 (HLET.out _)).mono ?_; rintro e V2 ⟨rfl, hb2⟩; have hO2 := HO.out.below hb2; obtain ⟨d1, d2, d3⟩ := HBX.out _ _ _ hO2; have cw2 := hO2.want.cell hxlt; have fw2 := hO2.want.frozen x.1; have HO2 := Lib.hid (HSET.out _ hO2); clear hO2)
          go_roundw
          case rel => exact ⟨1, by omega, hln.symm, rfl, HO2⟩
          case measure => simp [intOf]; omega
        | succ j =>
          obtain ⟨y, hy⟩ : ∃ y, l[j]? = some y := ⟨_, List.getElem?_eq_getElem (by omega)⟩
          rw [lastV_succ hy]
          have hord := HD.out.step hy hx
          have hor := next_order hord.1 hord.2
          rw [hm2] at hor
          have HY1 := Lib.hid hy
          have e1 : ((j + 1 : Nat) : Int) = (j : Int) + 1 := by omega
          have hj0 : (0 : Int) ≤ (j : Int) := by omega
          have hjl : (j : Int) < (l.length : Int) := by omega
          rw [e1] at *
          clear hx hy hord
          rcases hor with ⟨hyx, hlt2⟩ | ⟨hbl, hne⟩
          · have hyl : ¬ ((x.1 : Nat) : Int) ≤ ((y.1 : Nat) : Int) := by omega
            gi_wp2_with (refine ⟨trivial, ?_⟩; gi_at_call 73; refine (callsIn_wide.2 (HLET.out _)).mono ?_; rintro e V2 ⟨rfl, hb2⟩; have hO2 := HO.out.below hb2; obtain ⟨d1, d2, d3⟩ := HBX.out _ _ _ hO2; obtain ⟨-, ⟨g2, e2, c3⟩⟩ := HRD.out _ _ _ j y hO2 HY1.out; cases e2; rw [hyx] at c3; have cw2 := hO2.want.cell hxlt; have fw2 := hO2.want.frozen x.1; have HO2 := Lib.hid (HSET.out _ hO2); clear hO2)
            go_roundw
            case rel => exact ⟨j + 1 + 1, by omega, hln.symm, by go_num, HO2⟩
            case measure => simp [intOf]; omega
          · gi_wp2_with (refine ⟨trivial, ?_⟩; gi_at_call 73; refine (callsIn_wide.2 (HLET.out _)).mono ?_; rintro e V2 ⟨rfl, hb2⟩; have hO2 := HO.out.below hb2; obtain ⟨d1, d2, d3⟩ := HBX.out _ _ _ hO2; obtain ⟨-, ⟨g2, e2, c3⟩⟩ := HRD.out _ _ _ j y hO2 HY1.out; cases e2; have cw2 := hO2.want.cell hxlt; have fw2 := hO2.want.frozen x.1; have HO2 := Lib.hid (HSET.out _ hO2); clear hO2)
            go_roundw
            case rel => exact ⟨j + 1 + 1, by omega, hln.symm, by go_num, HO2⟩
            case measure => simp [intOf]; omega
      · have hil : i = l.length := by omega
        subst hil
        have hpop := HPOP.out _ _ _ (Nat.le_refl _) HR.out
        rw [popAtS_none (List.getElem?_eq_none_iff.2 (Nat.le_refl _))] at hpop
        generalize lastV l l.length = lv at *
        clear HR HRD
        gi_wp2_with fail
        refine ⟨trivial, (callsIn_wide.2 hpop).mono ?_⟩
        rintro e V1 ⟨rfl, -, hq1⟩
        have hO := hq1 trivial
        have hct := count_any hO.want (by omega)
        rw [fW_done HD.out, cntW_none] at hct
        have hwk := works4_any V1
        have HO := Lib.hid hO
        clear hpop hq1 hO b1 b2 b3
        gi_wp2_with (first | (refine ⟨trivial, ?_⟩; gi_at_call 70; refine (callsIn_wide.2 hct).mono ?_; rintro e V2 ⟨rfl, hw2⟩; rw [hw2]) | (refine ⟨trivial, ?_⟩; gi_at_call 48; refine (callsIn_wide.2 hwk).mono ?_; rintro e V2 ⟨rfl, hb2⟩))
        have hO2 := HO.out.below hb2
        have hk2 := (HBX.out _ _ _ hO2).2.2
        refine ⟨by simp, .inl ⟨_, _, rfl, run_takeDeferred hk2, ?_⟩⟩
        exact ⟨_, results_tmp rfl _ _ _, rfl, hO2.low.grown (grownBy_putObj' V2 D (.deferred none)) hO2.low.size (fun k e => by cases e; omega)⟩

/-- PqueueOrder, for every input. -/
theorem order_any (size : Nat) (hsz : size ≤ 255) (a : Option Addr) (len cap : Nat) (xs : List (Bool × Nat × Nat)) (hlen : xs.length = len) (hc63 : len ≤ 9223372036854775807) (w : World) (hX : TurnsAt w w.heap.size a xs) :
    Calls Try.prog 10 #[.int .u8 (size : Nat), .slice a len cap] w fun e w' => e = .returned (.bool true) ∧ Below w.heap.size w w' := by
  by_cases h200 : 200 < len
  · suffices h : CallsIn Fence.wide 10 Try.prog 10 #[.int .u8 (size : Nat), .slice a len cap] w fun e w' => e = .returned (.bool true) ∧ Below w.heap.size w w' from callsIn_wide.1 h
    have h1 : 1 ≤ 10 := by omega
    have hd : decide ((200 : Int) < (len : Int)) = true := decide_eq_true (by omega)
    have hd2 : (200 : Int) < (len : Int) := by omega
    have hwk := works4_any w
    refine callsIn_of_wp_marks Try.func10 rfl trivial ?_ rfl
    simp only [Try.ntmps10, List.size_toArray, List.length_nil, List.length_cons, Nat.reduceAdd, Nat.reduceSub, Array.replicate_succ, Array.replicate_zero, List.push_toArray, List.append_toArray, List.nil_append, List.cons_append]
    gi_wp2_with fail
    refine ⟨trivial, (callsIn_wide.2 hwk).mono ?_⟩
    rintro e w1 ⟨rfl, hb⟩
    gi_wp2_with fail
    exact ⟨_, results_tmp rfl _ _ _, rfl, hb⟩
  · exact callsIn_wide.1 (order_in 10 (by decide) size hsz a len cap xs hlen hc63 w hX h200)
end Go.Proofs.Ytbkdcafamdiliaa
