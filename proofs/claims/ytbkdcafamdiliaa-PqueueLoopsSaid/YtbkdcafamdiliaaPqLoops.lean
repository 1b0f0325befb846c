/- PqueueLoops: the walk. -/
import Derived.Test.YtbkdcafamdiliaaPqAll2S
import Derived.Test.YtbkdcafamdiliaaPqMade
import Derived.Test.YtbkdcafamdiliaaPqWorks
import Derived.Test.YtbkdcafamdiliaaPqRow0
import Derived.Deep.QuietTactic
import Derived.BigQuiet
import Derived.Outline
import Derived.StillTailTactics
namespace Go.Proofs.Ytbkdcafamdiliaa
open Go Go.RowKit

attribute [local go_sem] Oper.semAt_some

theorem TurnsAt.high {w : World} {N N' : Nat} {a : Option Addr} {xs : List (Bool × Nat × Nat)} (h : TurnsAt w N a xs) (hN : N ≤ N') : TurnsAt w N' a xs := fun j x hx => by
  obtain ⟨⟨g, o, ha, hg, h1⟩, hr⟩ := h j x hx
  exact ⟨⟨g, o, ha, Nat.lt_of_lt_of_le hg hN, h1⟩, hr⟩

theorem infoIntL : (Try.prog.info? 3).map (fun i => (i.zero, i.size, i.bytes)) = some (some (.int .i64 0), 1, 8) := by kernel_rfl

set_option maxHeartbeats 800000 in
set_option maxRecDepth 100000 in
theorem allMakeL (v' : Option Addr) (W : World) :
    Calls Try.prog 71 #[.pointer v'] W fun e w' => e = .returned (.func (.func 164) #[] #[.pointer (some ⟨W.heap.size, 0, none⟩)]) ∧ w' = W.alloc (.cells #[.pointer v'] 124) := by
  go_enter Try.func71, Try.ntmps71
  go_wp2
  go_ret
  exact ⟨rfl, rfl⟩

theorem ownsRow_mono4 {w : World} {b b' : Nat} {e : TypeId} {size : Nat} {v : Value} {n : Nat} {xs : List Value} (h : w.ownsRow b' e size v n xs) (hb : b ≤ b') : w.ownsRow b e size v n xs := by
  refine ⟨h.1, ?_⟩
  rcases h.2 with h1 | ⟨g, cap, cur, h1, h2, h3⟩
  · exact .inl h1
  · exact .inr ⟨g, cap, cur, h1, Nat.le_trans hb h2, h3⟩

theorem dropLast_prefix {α : Type} {pre l : List α} {k : Nat} (h : pre <+: l) (hk : pre.length = k + 1) : pre.dropLast = l.take k ∧ k + 1 ≤ l.length := by
  have h1 := h.length_le
  have h2 := List.prefix_iff_eq_take.1 h
  refine ⟨?_, by omega⟩
  rw [List.dropLast_eq_take, h2, List.length_take, List.take_take]
  congr 1
  omega

/-- The ids that have come. -/
def idsL (pre : List (Nat × ByteArray)) : List Value := pre.map fun x => Value.int .i64 (x.1 : Nat)

/-- What stands while the laws' loops go on: the queue, what is wanted, the box of the count at which to stop, the result's cell. -/
structure LSt (W : World) (B n st : Nat) (p : Option Addr) (m : Nat → Option Nat) : Prop where
  q : PQS W 0 (B + 2) p n (lm m)
  want : WA W (B + 2 + 1) n (fun k => wv (m k))
  sbox : Boxed W B 5 (.int .u8 (st : Nat))
  res : Boxed W (B + 1) 4 (.bool false)

theorem LSt.low {W W' : World} {B n st S : Nat} {p : Option Addr} {m : Nat → Option Nat} (h : LSt W B n st p m) (hb : Below S W W') (hS : B + 2 + 1 < S) (hp : ∀ a, p = some a → a.block < S) : LSt W' B n st p m :=
  ⟨h.q.same hb.size (hb.block _ (by omega)) (fun a ha => hb.block _ (hp a ha)), h.want.same (hb.block _ hS), (hb.block _ (by omega)).trans h.sbox, (hb.block _ (by omega)).trans h.res⟩

/-- A slice of ids in the box E, its row from hi on; all else as in X. -/
structure LIn (X W : World) (E hi : Nat) (k : Nat) (ids : List (Nat × ByteArray)) : Prop where
  ids : ∃ v, Boxed W E 53 v ∧ W.ownsRow hi 3 1 v k (idsL ids)
  os : W.os = X.os
  tape : W.tape = X.tape
  output : W.output = X.output
  size : X.heap.size ≤ W.heap.size
  hiw : hi ≤ W.heap.size
  block : ∀ k, k < X.heap.size → k ≠ E → W.heap[k]? = X.heap[k]?

theorem LIn.step {X W C : World} {E hi k : Nat} {ids : List (Nat × ByteArray)} (h : LIn X W E hi k ids) (hE : E < X.heap.size) (hs : OwnStep X.heap.size hi W C) : LIn X C E hi k ids := by
  obtain ⟨⟨v, h1, h2⟩, h5, h6, h7, h8, h10, h9⟩ := h
  exact ⟨⟨v, boxed_step h1 hE hs, ownsRow_step h2 (Nat.le_refl _) hs⟩, hs.os.trans h5, hs.tape.trans h6, hs.output.trans h7, Nat.le_trans h8 hs.size, Nat.le_trans h10 hs.size, fun k hk k1 => (hs.block k (by omega) (.inl hk)).trans (h9 k hk k1)⟩

theorem LIn.mono {X W : World} {E hi hi' k : Nat} {ids : List (Nat × ByteArray)} (h : LIn X W E hi k ids) (hh : hi' ≤ hi) : LIn X W E hi' k ids := by
  obtain ⟨⟨v, h1, h2⟩, h5, h6, h7, h8, h10, h9⟩ := h
  exact ⟨⟨v, h1, ownsRow_mono4 h2 hh⟩, h5, h6, h7, h8, by omega, h9⟩

theorem LIn.below {X W : World} {E hi k : Nat} {ids : List (Nat × ByteArray)} (h : LIn X W E hi k ids) (hE : E < X.heap.size) : Below E X W := ⟨h.os, h.tape, h.output, h.size, fun j hj => h.block j (by omega) (by omega)⟩

/-- The counter of the second loop, in its box; all else as in X. -/
structure LCt (X W : World) (T hi k : Nat) : Prop where
  cnt : Boxed W T 3 (.int .i64 (k : Nat))
  os : W.os = X.os
  tape : W.tape = X.tape
  output : W.output = X.output
  size : X.heap.size ≤ W.heap.size
  block : ∀ k, k < X.heap.size → k ≠ T → W.heap[k]? = X.heap[k]?

theorem LCt.step {X W C : World} {T hi k : Nat} (h : LCt X W T hi k) (hT : T < X.heap.size) (hs : OwnStep X.heap.size hi W C) : LCt X C T hi k := by
  obtain ⟨h1, h5, h6, h7, h8, h9⟩ := h
  exact ⟨boxed_step h1 hT hs, hs.os.trans h5, hs.tape.trans h6, hs.output.trans h7, Nat.le_trans h8 hs.size, fun k hk k1 => (hs.block k (by omega) (.inl hk)).trans (h9 k hk k1)⟩

theorem LCt.below {X W : World} {T hi k : Nat} (h : LCt X W T hi k) (hT : T < X.heap.size) : Below T X W := ⟨h.os, h.tape, h.output, h.size, fun j hj => h.block j (by omega) (by omega)⟩

set_option maxHeartbeats 8000000 in
set_option maxRecDepth 100000 in
theorem loops_in (N : Nat) (hN : 10 ≤ N) (size : Nat) (hsz : size ≤ 255) (a : Option Addr) (len cap : Nat) (xs : List (Bool × Nat × Nat)) (hlen : xs.length = len) (hc63 : len ≤ 9223372036854775807) (st : Nat) (hst : st ≤ 255) (w : World) (hX : TurnsAt w w.heap.size a xs) (h150 : ¬ 150 < len) :
    CallsIn Fence.wide N Try.prog 13 #[.int .u8 (size : Nat), .slice a len cap, .int .u8 (st : Nat)] w fun e w' => e = .returned (.bool true) ∧ Below w.heap.size w w' := by
  have h1 : 1 ≤ N := by omega
  obtain ⟨W0, hW0⟩ : ∃ W0, W0 = (w.alloc (.cells #[.int .u8 (st : Nat)] 5)).alloc (.cells #[.bool false] 4) := ⟨_, rfl⟩
  have hs0 : W0.heap.size = w.heap.size + 2 := by rw [hW0]; simp
  have hb0 : Below w.heap.size w W0 := by rw [hW0]; exact ((Below.refl _ _).alloc (Nat.le_refl _) _).alloc (by simp) _
  have bS : Boxed W0 w.heap.size 5 (.int .u8 (st : Nat)) := by rw [hW0]; exact (boxed_at4 rfl _ _).alloc _
  have bR : Boxed W0 (w.heap.size + 1) 4 (.bool false) := by rw [hW0]; exact boxed_at4 (by simp) _ _
  have hmade := made_any size hsz a len cap xs hlen hc63 W0 ((hX.below hb0).high (by omega))
  rw [hs0] at hmade
  have hd : decide ((150 : Int) < (len : Int)) = false := decide_eq_false (by omega)
  have hd2 : ¬ (150 : Int) < (len : Int) := by omega
  generalize hn : 1 + size % 50 = n at *
  have hn1 : 1 ≤ n := by omega
  have hn50 : n ≤ 50 := by omega
  have HMK := Lib.hid hmade
  clear hn h150 hX hlen hmade
  refine callsIn_of_wp_marks Try.func13 rfl trivial ?_ rfl
  simp only [Try.ntmps13, List.size_toArray, List.length_nil, List.length_cons, Nat.reduceAdd, Nat.reduceSub, Array.replicate_succ, Array.replicate_zero, List.push_toArray, List.append_toArray, List.nil_append, List.cons_append]
  gi_wp2_with fail
  rw [← hW0]
  refine ⟨trivial, (callsIn_wide.2 HMK.out).mono ?_⟩
  rintro e W1 ⟨rfl, m, hM⟩
  obtain ⟨q1, q2, p, q3, q4⟩ := hM.q
  obtain ⟨l, hD⟩ := drn_ex ordS n _ (lm m) (fun k hk => q3.low hk) rfl
  have hlen := hD.len (fun k hk => q3.low hk)
  have hcl : l.length ≤ 1024 := by rw [hlen]; exact q3.cnt
  obtain ⟨S, hS⟩ : ∃ S, S = W1.heap.size := ⟨_, rfl⟩
  have hpS : ∀ a, p = some a → a.block < S := fun a ha => by rw [hS]; exact (q3.own ha).2.1
  have hlow : Below (w.heap.size + 2) W0 W1 := hM.low
  have hwS : w.heap.size + 2 + 1 < S := by rw [hS]; exact hM.want.lt
  have hL1 : LSt W1 w.heap.size n st p m := ⟨q3, hM.want, (hlow.block _ (by omega)).trans bS, (hlow.block _ (by omega)).trans bR⟩
  have hbw1 : Below w.heap.size w W1 := hb0.trans (hlow.mono (by omega))
  have HL1 := Lib.hid hL1
  have HBW := Lib.hid hbw1
  have HD := Lib.hid hD
  have HLEN := Lib.hid hlen
  clear q1 q2 q3 q4 hM hD hlen hlow hL1 hbw1 hb0 bS bR HMK hW0 hs0
  gi_wp2_with fail
  refine ⟨trivial, (callsIn_wide.2 (allMakeL _ _)).mono ?_⟩
  rintro e W2 ⟨rfl, rfl⟩
  gi_wp2_with fail
  obtain ⟨X, hX⟩ : ∃ X, X = (W1.alloc (.cells #[.pointer (some ⟨w.heap.size + 2, 0, none⟩)] 124)).alloc (.cells #[.slice none 0 0] 53) := ⟨_, rfl⟩
  have hXs : X.heap.size = S + 2 := by rw [hX, hS]; simp
  have hXb : Below S W1 X := by rw [hX, hS]; exact ((Below.refl _ _).alloc (Nat.le_refl _) _).alloc (by simp) _
  have bA : Boxed X S 124 (.pointer (some ⟨w.heap.size + 2, 0, none⟩)) := by rw [hX]; exact (boxed_at4 hS.symm _ _).alloc _
  have bF : Boxed X (S + 1) 53 (.slice none 0 0) := by rw [hX]; exact boxed_at4 (by simp [hS]) _ _
  have hLX : LSt X w.heap.size n st p m := HL1.out.low hXb hwS hpS
  have hbX : Below w.heap.size w X := HBW.out.trans (hXb.mono (by omega))
  rw [← hX, ← hS]
  have HLX := Lib.hid hLX
  have HBX := Lib.hid hbX
  clear hX hXb hS hLX hbX HL1 HBW
  obtain ⟨i0, hi0, hz0, hz1, hz2⟩ := info_parts infoIntL
  have hseq := allAtS (N - 1) (by omega) S HD.out X bA.cell HLX.out.q
  refine rangeOwnB (encs := encPS) (fun x T => ((T.setIfInBounds 32 (.int .i64 (x.1 : Nat))).setIfInBounds 33 (.string x.2)).setIfInBounds 11 (.int .i64 (x.1 : Nat))) 0 rfl h1 (gf := 164) (lb := #[.pointer (some ⟨S, 0, none⟩)]) rfl trivial (enters_of Try.func164 (by kernel_rfl) rfl)
    hseq (Below.refl _ _) (fun _ => rfl) (fun hi pre W => LIn X W (S + 1) hi pre.length pre ∧ pre.length ≤ st) (fun hi pre W => LIn X W (S + 1) hi (pre.length - 1) pre.dropLast ∧ pre.length = st + 1)
    (fun hi s A C h _ hs => ⟨h.1.step (by omega) hs, h.2⟩) (fun hi s A C h _ hs => ⟨h.1.step (by omega) hs, h.2⟩)
    (fun A hA _ => ⟨⟨⟨_, (hA.block (S + 1) (by omega)).trans bF, World.ownsRow_nil _ _ _ _⟩, hA.os, hA.tape, hA.output, hA.size, Nat.le_refl _, fun k hk _ => hA.block k hk⟩, Nat.zero_le _⟩) ?assign1 ?body1
    (fun W => LIn X W (S + 1) (S + 2) (min st l.length) (l.take (min st l.length))) ?done1 ?stop1 ?q1 ?rest1
  case assign1 =>
    intro lr x W K hK
    unfold encPS
    gi_wp2
    exact hK
  case done1 =>
    rintro hi ys W hh rfl ⟨hL, hle⟩
    rw [Nat.min_eq_right hle, List.take_of_length_le (Nat.le_refl _)]
    exact hL.mono (by omega)
  case stop1 =>
    rintro hi pre W hh hp ⟨hL, hle⟩
    obtain ⟨e1, e2⟩ := dropLast_prefix hp hle
    rw [hle, Nat.add_sub_cancel, e1] at hL
    rw [Nat.min_eq_left (by omega)]
    exact hL.mono (by omega)
  case q1 => exact fun a W hq => hq
  case body1 =>
    rintro lr hi pre x W hhi ⟨hL, hle⟩ hat
    obtain ⟨⟨v, hv, hrow⟩, h5, h6, h7, h8, h10, h9⟩ := hL
    obtain ⟨fp, fc, rfl, hfc, hfc63⟩ := ownsRow_slice4 hrow
    have hc := hv.cell
    have hlow : Below (S + 1) X W := ⟨h5, h6, h7, h8, fun j hj => h9 j (by omega) (by omega)⟩
    have cst := (HLX.out.low hlow (by omega) (fun a ha => by have := hpS a ha; omega)).sbox.cell
    have hwr : IntKind.i64.wrap (st : Int) = (st : Int) := by rw [IntKind.wrap_i64]; omega
    have hpl : pre.length < 1024 := by have := (List.getElem?_eq_some_iff.1 hat).1; omega
    have hXW : X.heap.size ≤ W.heap.size := h8
    clear hlow
    by_cases heq : pre.length = st
    · have HFB : Hid (KeepsIn X.heap.size hi W W ∧ (Code.exit 0 = Code.exit 0 ∧ (LIn X W (S + 1) hi ((pre ++ [x]).length - 1) (pre ++ [x]).dropLast ∧ (pre ++ [x]).length = st + 1))) := Lib.hid (by
        refine ⟨KeepsIn.refl _ _ _, rfl, ?_, by simp [heq]⟩
        rw [List.dropLast_concat, List.length_append, List.length_singleton, Nat.add_sub_cancel]
        exact ⟨⟨_, hv, hrow⟩, h5, h6, h7, h8, h10, h9⟩)
      have hbe : ((pre.length : Int) == (st : Int)) = true := by rw [beq_iff_eq]; omega
      clear hv hrow h5 h6 h7 h9
      simp only [List.setIfInBounds_toArray, List.set_cons_succ, List.set_cons_zero]
      gi_wp2_with fail
      exact ⟨KeepsIn.refl _ _ _, rfl, HFB.out.2.2⟩
    · have hne : ((pre.length : Int) == (st : Int)) = false := by rw [beq_eq_false_iff_ne]; omega
      have hne' : ¬ ((pre.length : Int) = (st : Int)) := by omega
      have HF : Hid (∀ W2 : World, (∃ v, Boxed W2 (S + 1) 53 v ∧ W2.ownsRow hi 3 1 v (pre.length + 1) (idsL pre ++ [Value.int .i64 (x.1 : Nat)])) → W2.os = W.os → W2.tape = W.tape → W2.output = W.output → W.heap.size ≤ W2.heap.size → (∀ k, k < X.heap.size → k ≠ S + 1 → W2.heap[k]? = W.heap[k]?) → LIn X W2 (S + 1) hi (pre ++ [x]).length (pre ++ [x]) ∧ (pre ++ [x]).length ≤ st) := Lib.hid fun W2 e1 e3 e4 e5 e6 e7 => by
        refine ⟨⟨?_, e3.trans h5, e4.trans h6, e5.trans h7, Nat.le_trans h8 e6, Nat.le_trans h10 e6, fun k hk k1 => (e7 k hk k1).trans (h9 k hk k1)⟩, by simp; omega⟩
        simpa [idsL] using e1
      clear h5 h6 h7 h9
      obtain ⟨xi, xp⟩ := x
      dsimp only at *
      simp only [List.setIfInBounds_toArray, List.set_cons_succ, List.set_cons_zero]
      gi_wp2_with (gi_at_builtin; refine wpListIn_append_own _ rfl _ _ 53 rfl hi 3 i0 (.int .i64 0) 1 8 Try.underlying53 hi0 hz0 hz1 hz2 rfl (by decide) _ _ _ rfl (hrow.alloc _) ⟨W.heap.size, 0, none⟩ 1 1 [.int .i64 (xi : Nat)] rfl rfl (cell_one_new _ _ _) (by simp [Value.oneCell']) (by unfold maxLen; omega) (by omega) (by simp only [World.size_alloc]; omega) ?_; intro v' w1 hown' hgrow _; obtain ⟨g', cap', rfl⟩ := ownsRow_succ hown'; have hG := grew hv (by decide) hrow hown' hgrow; have hc1 := hG.box1.cell; have hf1 := hG.box1.frozen)
      refine ⟨hG.keeps (by omega), HF.out _ ⟨_, hG.box, hG.row⟩ hG.os hG.tape hG.output hG.size (fun k hk k1 => hG.lowBlock (by omega) (by omega) k1)⟩
  case rest1 =>
    intro D1 Y hD1 hL hK
    obtain ⟨⟨v, hv, hrow⟩, h5, h6, h7, h8, h10, h9⟩ := hL
    obtain ⟨k0, hk0⟩ : ∃ k0, k0 = min st l.length := ⟨_, rfl⟩
    rw [← hk0] at hrow
    have hk0l : k0 ≤ l.length := by omega
    obtain ⟨fp, fc, rfl, hfc, hfc63⟩ := ownsRow_slice4 hrow
    have hlowY : Below (S + 1) X Y := ⟨h5, h6, h7, h8, fun j hj => h9 j (by omega) (by omega)⟩
    have hLY := HLX.out.low hlowY (by omega) (fun a ha => by have := hpS a ha; omega)
    obtain ⟨X2, hX2⟩ : ∃ X2, X2 = Y.alloc (.cells #[.int .i64 0] 3) := ⟨_, rfl⟩
    have hX2s : X2.heap.size = Y.heap.size + 1 := by rw [hX2]; simp
    have hYX2 : Below Y.heap.size Y X2 := by rw [hX2]; exact (Below.refl _ _).alloc (Nat.le_refl _) _
    have bT : Boxed X2 Y.heap.size 3 (.int .i64 0) := by rw [hX2]; exact boxed_at4 rfl _ _
    have hL2 : LSt X2 w.heap.size n st p m := hLY.low hYX2 (by omega) (fun a ha => by have := hpS a ha; omega)
    have bA2 : Boxed X2 S 124 (.pointer (some ⟨w.heap.size + 2, 0, none⟩)) := (hYX2.block _ (by omega)).trans ((hlowY.block _ (by omega)).trans bA)
    have bF2 : Boxed X2 (S + 1) 53 (.slice fp k0 fc) := (hYX2.block _ (by omega)).trans hv
    have hK2 : X2.heap[D1]? = some (.deferred (some [])) := (hYX2.block _ (Array.getElem?_eq_some_iff.1 hK).1).trans hK
    have hfst : ∀ j x, j < k0 → l[j]? = some x → ∃ g, fp = some ⟨g, 0, none⟩ ∧ S + 2 ≤ g ∧ g < Y.heap.size ∧ X2.cell? ⟨g, j, none⟩ = some (.int .i64 (x.1 : Nat)) := fun j x hj hx => by
      have hj' := (List.getElem?_eq_some_iff.1 hx).1
      obtain ⟨g, e1, e2, e3, e4⟩ := ownsRow_at4 hrow (j := j) (u := .int .i64 (x.1 : Nat)) (by simp only [idsL, List.getElem?_map, List.getElem?_take, if_pos hj, hx]; rfl)
      exact ⟨g, e1, e2, e3, (hYX2.cell (p := ⟨g, j, none⟩) e3).trans e4⟩
    have hb2 : Below w.heap.size w X2 := HBX.out.trans ((hlowY.mono (by omega)).trans (hYX2.mono (by omega)))
    have hSX2 : S + 2 ≤ Y.heap.size := by omega
    have hD1Y := (Array.getElem?_eq_some_iff.1 hK).1
    have hfz : (Y.alloc (.cells #[.int .i64 0] 3)).cell? ⟨Y.heap.size, 0, none⟩ = some (.int .i64 0) := (Boxed.new Y _ _).cell
    have HL2 := Lib.hid hL2
    have HF2 := Lib.hid hfst
    have HB2 := Lib.hid hb2
    have HK2 := Lib.hid hK2
    have hseq2 := allAtS (N - 1) (by omega) S HD.out X2 bA2.cell hL2.q
    clear hv hrow h5 h6 h7 h9 hlowY hLY hL2 hfst hb2 hK2 hK hseq bA bF bA2 hYX2 HLX
    gi_wp2_with fail
    rw [← hX2]
    clear hX2
    refine rangeOwnB (encs := encPS) (fun x T => ((T.setIfInBounds 44 (.int .i64 (x.1 : Nat))).setIfInBounds 45 (.string x.2)).setIfInBounds 13 (.int .i64 (x.1 : Nat))) 2 rfl h1 (gf := 164) (lb := #[.pointer (some ⟨S, 0, none⟩)]) rfl trivial (enters_of Try.func164 (by kernel_rfl) rfl)
      hseq2 (Below.refl _ _) (fun _ => rfl) (fun hi pre W => LCt X2 W Y.heap.size hi pre.length) (fun _ _ _ => False)
      (fun hi s A C h _ hs => h.step (by omega) hs) (fun hi s A C h _ hs => h)
      (fun A hA _ => ⟨(hA.block _ (by omega)).trans bT, hA.os, hA.tape, hA.output, hA.size, fun k hk _ => hA.block k hk⟩) ?assign2 ?body2
      (fun W => LCt X2 W Y.heap.size 0 l.length) ?done2 ?stop2 ?q2 ?rest2
    case assign2 =>
      intro lr x W K hK
      unfold encPS
      gi_wp2
      exact hK
    case done2 =>
      rintro hi ys W hh rfl hC
      exact ⟨hC.cnt, hC.os, hC.tape, hC.output, hC.size, hC.block⟩
    case stop2 => exact fun _ _ _ _ _ h => h.elim
    case q2 => exact fun a W hq => hq
    case body2 =>
      rintro lr hi pre x W hhi hC hat
      have hct := hC.cnt.cell
      have hcf := hC.cnt.frozen
      have hbx : Boxed W (S + 1) 53 (.slice fp k0 fc) := (hC.block _ (by omega) (by omega)).trans bF2
      have hc := hbx.cell
      have hlow := hC.below (by omega)
      have hpl : pre.length < 1024 := by have := (List.getElem?_eq_some_iff.1 hat).1; omega
      have HFB : Hid (KeepsIn X2.heap.size hi W (W.setCell ⟨Y.heap.size, 0, none⟩ (.int .i64 ((pre.length + 1 : Nat) : Int))) ∧ LCt X2 (W.setCell ⟨Y.heap.size, 0, none⟩ (.int .i64 ((pre.length + 1 : Nat) : Int))) Y.heap.size hi (pre ++ [x]).length) := Lib.hid (by
        have hg := grownBy_setCell' W Y.heap.size (.int .i64 ((pre.length + 1 : Nat) : Int))
        refine ⟨KeepsIn.of_grownBy hg (fun r e => by cases e; left; omega), ?_⟩
        rw [List.length_append, List.length_singleton]
        exact ⟨hC.cnt.set _, hC.os, hC.tape, hC.output, by rw [size_setCell4]; exact hC.size, fun k hk k1 => (hg.block k (by have := hC.size; omega) (fun e => k1 (by cases e; rfl))).trans (hC.block k hk k1)⟩)
      have e1 : ((pre.length + 1 : Nat) : Int) = (pre.length : Int) + 1 := by omega
      rw [e1] at HFB
      by_cases hlt : pre.length < k0
      · obtain ⟨g, rfl, e2, e3, e4⟩ := HF2.out _ _ hlt hat
        have hcx := (hlow.cell (p := ⟨g, pre.length, none⟩) e3).trans e4
        have hltI : (pre.length : Int) < (k0 : Int) := by omega
        obtain ⟨xi, xp⟩ := x
        dsimp only at *
        clear hbx hlow hC hat
        simp only [List.setIfInBounds_toArray, List.set_cons_succ, List.set_cons_zero]
        gi_wp2_with fail
        first
          | exact HFB.out
          | (have hk1 := HFB.out.1; rw [hX2s] at hk1; exact ⟨hk1, HFB.out.2⟩)
      · have hltI : ¬ (pre.length : Int) < (k0 : Int) := by omega
        obtain ⟨xi, xp⟩ := x
        dsimp only at *
        clear hbx hlow hC hat
        simp only [List.setIfInBounds_toArray, List.set_cons_succ, List.set_cons_zero]
        gi_wp2_with fail
        first
          | exact HFB.out
          | (have hk1 := HFB.out.1; rw [hX2s] at hk1; exact ⟨hk1, HFB.out.2⟩)
    case rest2 =>
      intro D2 Z hD2 hC hK3
      have hlow := hC.below (by omega)
      have hLZ := HL2.out.low hlow (by omega) (fun a ha => by have := hpS a ha; omega)
      have hpk : Calls Try.prog 79 #[.pointer (some ⟨w.heap.size + 2, 0, none⟩)] Z fun e w' => e = .returned (.tuple #[(popAtS l 0).1, (popAtS l 0).2.1, (popAtS l 0).2.2]) ∧ Below Z.heap.size Z w' := by
        cases h0 : l[0]? with
        | none =>
          rw [popAtS_none h0]
          have : l = [] := by simpa using h0
          subst this
          exact peekNoS hLZ.q HD.out
        | some x =>
          rw [popAtS_some h0]
          exact peekS hLZ.q (HD.out.fst h0)
      have hcz := hC.cnt.cell
      have hbx : Boxed Z (S + 1) 53 (.slice fp k0 fc) := (hC.block _ (by omega) (by omega)).trans bF2
      have hD1Z : Z.heap[D1]? = some (.deferred (some [])) := (hlow.block _ (by omega)).trans HK2.out
      have hZs := hC.size
      have HSTD : Hid (∀ V, Below Z.heap.size Z V → LSt V w.heap.size n st p m ∧ V.cell? ⟨Y.heap.size, 0, none⟩ = some (.int .i64 (l.length : Nat)) ∧ V.cell? ⟨S + 1, 0, none⟩ = some (.slice fp k0 fc) ∧ V.heap[D1]? = some (.deferred (some [])) ∧ V.heap[D2]? = some (.deferred (some [])) ∧ Below w.heap.size w V ∧ (∀ j x, j < k0 → l[j]? = some x → ∃ g, fp = some ⟨g, 0, none⟩ ∧ V.cell? ⟨g, j, none⟩ = some (.int .i64 (x.1 : Nat)))) := Lib.hid fun V hV => by
        refine ⟨hLZ.low (hV.mono (Nat.le_refl _)) (by omega) (fun a ha => by have := hpS a ha; omega), (hV.cell (p := ⟨Y.heap.size, 0, none⟩) (by show Y.heap.size < _; omega)).trans hcz, Boxed.cell (t := 53) ((hV.block _ (by omega)).trans hbx), (hV.block _ (by omega)).trans hD1Z, (hV.block _ (Array.getElem?_eq_some_iff.1 hK3).1).trans hK3, HB2.out.trans ((hlow.mono (by omega)).trans (hV.mono (by omega))), fun j x hj hx => ?_⟩
        obtain ⟨g, e1, e2, e3, e4⟩ := HF2.out j x hj hx
        exact ⟨g, e1, (hV.cell (p := ⟨g, j, none⟩) (by show g < _; omega)).trans ((hlow.cell (p := ⟨g, j, none⟩) e3).trans e4)⟩
      have HPK := Lib.hid hpk
      clear hpk hLZ hlow hcz hbx hD1Z hC hK3 HF2 HK2 HL2 HB2 bF2 bT hseq2
      gi_wp2_with fail
      refine ⟨trivial, (callsIn_wide.2 HPK.out).mono ?_⟩
      rintro e V ⟨rfl, hbV⟩
      have HBV := Lib.hid hbV
      have hVd : Below Z.heap.size Z V.drew := hbV.drew
      obtain ⟨t1, t2, t3, t4, t5, t6, t7⟩ := HSTD.out V.drew hVd
      have hct := count_any t1.want (by omega)
      rw [← cnt_lm, ← HLEN.out] at hct
      have hln := lenS t1.q
      rw [← HLEN.out] at hln
      have HST := Lib.hid (And.intro t1.res (And.intro t4 (And.intro t5 t6)))
      clear hbV t1 t4 t5 t6 hVd HPK
      cases h0 : l[0]? with
      | none =>
        have hl0 : l.length = 0 := by have := List.getElem?_eq_none_iff.1 h0; omega
        have hk00 : k0 = 0 := by omega
        rw [popAtS_none h0]
        subst hk00
        rw [hl0] at hct hln t2
        rw [show ((0 : Nat) : Int) = 0 from rfl] at hct hln t2
        clear h0 hl0 hk0 hk0l t7
        gi_wp2_with fail
        refine wpIn_wide.2 ?_
        refine wp_region_still_tail 29 (by kernel_rfl) (by kernel_rfl) ?_
        simp only [List.take_succ_cons, List.take_zero, List.drop_succ_cons, List.drop_zero]
        rw [show ({ heap := V.heap, tape := V.tape, drawn := V.drawn + 1, os := V.os, output := V.output } : World) = V.drew from rfl]
        generalize V.drew = V2 at *
        still_step
        still_step
        still_call hct
        still_step
        still_step
        still_step
        still_call hln
        repeat still_step
        refine wpStill_nil ?_
        go_wp2_with fail
        refine (works4_any V2).mono ?_
        rintro e V3 ⟨rfl, hb3⟩
        have hr3 : Boxed V3 (w.heap.size + 1) 4 (.bool false) := (hb3.block _ HST.out.1.lt).trans HST.out.1
        have hd1 : V3.heap[D1]? = some (.deferred (some [])) := (hb3.block _ (Array.getElem?_eq_some_iff.1 HST.out.2.1).1).trans HST.out.2.1
        have hd2 : V3.heap[D2]? = some (.deferred (some [])) := (hb3.block _ (Array.getElem?_eq_some_iff.1 HST.out.2.2.1).1).trans HST.out.2.2.1
        have hbw : Below w.heap.size w V3 := HST.out.2.2.2.trans (hb3.mono HST.out.2.2.2.size)
        have cr := hr3.cell
        have fr := hr3.frozen
        have HE := Lib.hid (And.intro hr3 (And.intro hd1 (And.intro hd2 hbw)))
        clear hr3 hd1 hd2 hbw hb3
        go_wp2_with fail
        gi_wp2_with fail
        have b1 := HE.out.1.set (.bool true)
        have e2 : (V3.setCell ⟨w.heap.size + 1, 0, none⟩ (.bool true)).heap[D2]? = some (.deferred (some [])) := (Below.heap_setCell _ _ _ _ (by show D2 ≠ w.heap.size + 1; omega)).trans HE.out.2.2.1
        have e1 : ((V3.setCell ⟨w.heap.size + 1, 0, none⟩ (.bool true)).putObj D2 (.deferred none)).heap[D1]? = some (.deferred (some [])) := (World.putObj_heap_other (by omega)).trans ((Below.heap_setCell _ _ _ _ (by show D1 ≠ w.heap.size + 1; omega)).trans HE.out.2.1)
        refine ⟨by simp, .inl ⟨_, _, rfl, run_takeDeferred e2, ?_⟩⟩
        refine ⟨by simp, .inl ⟨_, _, rfl, run_takeDeferred e1, ?_⟩⟩
        have b2 := (b1.kept (grownBy_putObj' _ D2 (.deferred none)) (by simp; omega)).kept (grownBy_putObj' _ D1 (.deferred none)) (by simp; omega)
        have hc5 := b2.cell
        refine ⟨.bool true, ?_, rfl, ?_⟩
        · simp [results, Try.f13, go_sem, hc5]
        · have g0 := HE.out.2.2.2.setCell (p := ⟨w.heap.size + 1, 0, none⟩) (by show w.heap.size ≤ w.heap.size + 1; omega) (.bool true)
          have g1 := g0.grown (grownBy_putObj' _ D2 (.deferred none)) g0.size (fun k e => by cases e; omega)
          exact g1.grown (grownBy_putObj' _ D1 (.deferred none)) g1.size (fun k e => by cases e; omega)
      | some x =>
        obtain ⟨xi, xp⟩ := x
        have hl1 : 1 ≤ l.length := by have := (List.getElem?_eq_some_iff.1 h0).1; omega
        have hlI : (0 : Int) < (l.length : Int) := by omega
        have hlb : decide ((0 : Int) < (l.length : Int)) = true := decide_eq_true hlI
        have hlN : 0 < l.length := hl1
        have hlNb : decide (0 < l.length) = true := decide_eq_true hl1
        have hlnn : l ≠ [] := fun e => by rw [e] at hl1; simp at hl1
        generalize l.length = ll at *
        rw [popAtS_some h0]
        by_cases hk1 : 0 < k0
        · obtain ⟨g, rfl, c4⟩ := t7 0 _ hk1 h0
          have hkI : ((k0 : Int) == 0) = false := by rw [beq_eq_false_iff_ne]; omega
          have hkJ : (0 : Int) < (k0 : Int) := by omega
          clear h0 t7 hk0 hk0l
          gi_wp2_with fail
          refine wpIn_wide.2 ?_
          refine wp_region_still_tail 29 (by kernel_rfl) (by kernel_rfl) ?_
          simp only [List.take_succ_cons, List.take_zero, List.drop_succ_cons, List.drop_zero]
          rw [show ({ heap := V.heap, tape := V.tape, drawn := V.drawn + 1, os := V.os, output := V.output } : World) = V.drew from rfl]
          generalize V.drew = V2 at *
          still_step
          still_step
          still_call hct
          still_step
          still_step
          still_step
          still_call hln
          repeat still_step
          refine wpStill_nil ?_
          go_wp2_with fail
          refine (works4_any V2).mono ?_
          rintro e V3 ⟨rfl, hb3⟩
          have hr3 : Boxed V3 (w.heap.size + 1) 4 (.bool false) := (hb3.block _ HST.out.1.lt).trans HST.out.1
          have hd1 : V3.heap[D1]? = some (.deferred (some [])) := (hb3.block _ (Array.getElem?_eq_some_iff.1 HST.out.2.1).1).trans HST.out.2.1
          have hd2 : V3.heap[D2]? = some (.deferred (some [])) := (hb3.block _ (Array.getElem?_eq_some_iff.1 HST.out.2.2.1).1).trans HST.out.2.2.1
          have hbw : Below w.heap.size w V3 := HST.out.2.2.2.trans (hb3.mono HST.out.2.2.2.size)
          have cr := hr3.cell
          have fr := hr3.frozen
          have HE := Lib.hid (And.intro hr3 (And.intro hd1 (And.intro hd2 hbw)))
          clear hr3 hd1 hd2 hbw hb3
          go_wp2_with fail
          gi_wp2_with fail
          have b1 := HE.out.1.set (.bool true)
          have e2 : (V3.setCell ⟨w.heap.size + 1, 0, none⟩ (.bool true)).heap[D2]? = some (.deferred (some [])) := (Below.heap_setCell _ _ _ _ (by show D2 ≠ w.heap.size + 1; omega)).trans HE.out.2.2.1
          have e1 : ((V3.setCell ⟨w.heap.size + 1, 0, none⟩ (.bool true)).putObj D2 (.deferred none)).heap[D1]? = some (.deferred (some [])) := (World.putObj_heap_other (by omega)).trans ((Below.heap_setCell _ _ _ _ (by show D1 ≠ w.heap.size + 1; omega)).trans HE.out.2.1)
          refine ⟨by simp, .inl ⟨_, _, rfl, run_takeDeferred e2, ?_⟩⟩
          refine ⟨by simp, .inl ⟨_, _, rfl, run_takeDeferred e1, ?_⟩⟩
          have b2 := (b1.kept (grownBy_putObj' _ D2 (.deferred none)) (by simp; omega)).kept (grownBy_putObj' _ D1 (.deferred none)) (by simp; omega)
          have hc5 := b2.cell
          refine ⟨.bool true, ?_, rfl, ?_⟩
          · simp [results, Try.f13, go_sem, hc5]
          · have g0 := HE.out.2.2.2.setCell (p := ⟨w.heap.size + 1, 0, none⟩) (by show w.heap.size ≤ w.heap.size + 1; omega) (.bool true)
            have g1 := g0.grown (grownBy_putObj' _ D2 (.deferred none)) g0.size (fun k e => by cases e; omega)
            exact g1.grown (grownBy_putObj' _ D1 (.deferred none)) g1.size (fun k e => by cases e; omega)
        · have hk00 : k0 = 0 := by omega
          subst hk00
          clear h0 t7 hk0l hk0 hk1
          gi_wp2_with fail
          refine wpIn_wide.2 ?_
          refine wp_region_still_tail 29 (by kernel_rfl) (by kernel_rfl) ?_
          simp only [List.take_succ_cons, List.take_zero, List.drop_succ_cons, List.drop_zero]
          rw [show ({ heap := V.heap, tape := V.tape, drawn := V.drawn + 1, os := V.os, output := V.output } : World) = V.drew from rfl]
          generalize V.drew = V2 at *
          still_step
          still_step
          still_call hct
          still_step
          still_step
          still_step
          still_call hln
          repeat still_step
          refine wpStill_nil ?_
          go_wp2_with fail
          refine (works4_any V2).mono ?_
          rintro e V3 ⟨rfl, hb3⟩
          have hr3 : Boxed V3 (w.heap.size + 1) 4 (.bool false) := (hb3.block _ HST.out.1.lt).trans HST.out.1
          have hd1 : V3.heap[D1]? = some (.deferred (some [])) := (hb3.block _ (Array.getElem?_eq_some_iff.1 HST.out.2.1).1).trans HST.out.2.1
          have hd2 : V3.heap[D2]? = some (.deferred (some [])) := (hb3.block _ (Array.getElem?_eq_some_iff.1 HST.out.2.2.1).1).trans HST.out.2.2.1
          have hbw : Below w.heap.size w V3 := HST.out.2.2.2.trans (hb3.mono HST.out.2.2.2.size)
          have cr := hr3.cell
          have fr := hr3.frozen
          have HE := Lib.hid (And.intro hr3 (And.intro hd1 (And.intro hd2 hbw)))
          clear hr3 hd1 hd2 hbw hb3
          go_wp2_with fail
          gi_wp2_with fail
          have b1 := HE.out.1.set (.bool true)
          have e2 : (V3.setCell ⟨w.heap.size + 1, 0, none⟩ (.bool true)).heap[D2]? = some (.deferred (some [])) := (Below.heap_setCell _ _ _ _ (by show D2 ≠ w.heap.size + 1; omega)).trans HE.out.2.2.1
          have e1 : ((V3.setCell ⟨w.heap.size + 1, 0, none⟩ (.bool true)).putObj D2 (.deferred none)).heap[D1]? = some (.deferred (some [])) := (World.putObj_heap_other (by omega)).trans ((Below.heap_setCell _ _ _ _ (by show D1 ≠ w.heap.size + 1; omega)).trans HE.out.2.1)
          refine ⟨by simp, .inl ⟨_, _, rfl, run_takeDeferred e2, ?_⟩⟩
          refine ⟨by simp, .inl ⟨_, _, rfl, run_takeDeferred e1, ?_⟩⟩
          have b2 := (b1.kept (grownBy_putObj' _ D2 (.deferred none)) (by simp; omega)).kept (grownBy_putObj' _ D1 (.deferred none)) (by simp; omega)
          have hc5 := b2.cell
          refine ⟨.bool true, ?_, rfl, ?_⟩
          · simp [results, Try.f13, go_sem, hc5]
          · have g0 := HE.out.2.2.2.setCell (p := ⟨w.heap.size + 1, 0, none⟩) (by show w.heap.size ≤ w.heap.size + 1; omega) (.bool true)
            have g1 := g0.grown (grownBy_putObj' _ D2 (.deferred none)) g0.size (fun k e => by cases e; omega)
            exact g1.grown (grownBy_putObj' _ D1 (.deferred none)) g1.size (fun k e => by cases e; omega)

/-- PqueueLoops, for every input. -/
theorem loops_any (size : Nat) (hsz : size ≤ 255) (a : Option Addr) (len cap : Nat) (xs : List (Bool × Nat × Nat)) (hlen : xs.length = len) (hc63 : len ≤ 9223372036854775807) (st : Nat) (hst : st ≤ 255) (w : World) (hX : TurnsAt w w.heap.size a xs) :
    Calls Try.prog 13 #[.int .u8 (size : Nat), .slice a len cap, .int .u8 (st : Nat)] w fun e w' => e = .returned (.bool true) ∧ Below w.heap.size w w' := by
  by_cases h150 : 150 < len
  · suffices h : CallsIn Fence.wide 10 Try.prog 13 #[.int .u8 (size : Nat), .slice a len cap, .int .u8 (st : Nat)] w fun e w' => e = .returned (.bool true) ∧ Below w.heap.size w w' from callsIn_wide.1 h
    have h1 : 1 ≤ 10 := by omega
    have hd : decide ((150 : Int) < (len : Int)) = true := decide_eq_true (by omega)
    have hd2 : (150 : Int) < (len : Int) := by omega
    obtain ⟨W0, hW0⟩ : ∃ W0, W0 = (w.alloc (.cells #[.int .u8 (st : Nat)] 5)).alloc (.cells #[.bool false] 4) := ⟨_, rfl⟩
    have hs0 : W0.heap.size = w.heap.size + 2 := by rw [hW0]; simp
    have hb0 : Below w.heap.size w W0 := by rw [hW0]; exact ((Below.refl _ _).alloc (Nat.le_refl _) _).alloc (by simp) _
    have bR : Boxed W0 (w.heap.size + 1) 4 (.bool false) := by rw [hW0]; exact boxed_at4 (by simp) _ _
    refine callsIn_of_wp_marks Try.func13 rfl trivial ?_ rfl
    simp only [Try.ntmps13, List.size_toArray, List.length_nil, List.length_cons, Nat.reduceAdd, Nat.reduceSub, Array.replicate_succ, Array.replicate_zero, List.push_toArray, List.append_toArray, List.nil_append, List.cons_append]
    gi_wp2_with fail
    rw [← hW0]
    refine ⟨trivial, (callsIn_wide.2 (works4_any W0)).mono ?_⟩
    rintro e V3 ⟨rfl, hb3⟩
    have hr3 : Boxed V3 (w.heap.size + 1) 4 (.bool false) := (hb3.block _ (by omega)).trans bR
    have hbw : Below w.heap.size w V3 := hb0.trans (hb3.mono (by omega))
    have cr := hr3.cell
    have fr := hr3.frozen
    have HE := Lib.hid (And.intro hr3 hbw)
    clear hr3 hbw hb3 bR hb0 hs0 hW0
    gi_wp2_with fail
    have hc5 := (HE.out.1.set (.bool true)).cell
    refine ⟨.bool true, ?_, rfl, HE.out.2.setCell (p := ⟨w.heap.size + 1, 0, none⟩) (by show w.heap.size ≤ w.heap.size + 1; omega) (.bool true)⟩
    simp [results, Try.f13, go_sem, hc5]
  · exact callsIn_wide.1 (loops_in 10 (by decide) size hsz a len cap xs hlen hc63 st hst w hX h150)
end Go.Proofs.Ytbkdcafamdiliaa
