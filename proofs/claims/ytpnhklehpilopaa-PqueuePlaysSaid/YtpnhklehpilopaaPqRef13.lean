/- PqueuePlays: the walk. -/
import Derived.Test.YtpnhklehpilopaaPqRefB
import Derived.Test.YtpnhklehpilopaaOmRange
import Derived.Deep.RegionHeld3
namespace Go.Proofs.Ytpnhklehpilopaa
open Go Go.RowKit

attribute [local go_sem] Oper.semAt_some

/-- The counter in its box; all else as in X. -/
structure PCt (X W : World) (T hi k : Nat) : Prop where
  cnt : Boxed W T 3 (.int .i64 (k : Nat))
  os : W.os = X.os
  tape : W.tape = X.tape
  output : W.output = X.output
  size : X.heap.size ≤ W.heap.size
  block : ∀ k, k < X.heap.size → k ≠ T → W.heap[k]? = X.heap[k]?

theorem PCt.step {X W C : World} {T hi k : Nat} (h : PCt X W T hi k) (hT : T < X.heap.size) (hs : OwnStep X.heap.size hi W C) : PCt X C T hi k := by
  obtain ⟨h1, h5, h6, h7, h8, h9⟩ := h
  exact ⟨boxed_step h1 hT hs, hs.os.trans h5, hs.tape.trans h6, hs.output.trans h7, Nat.le_trans h8 hs.size, fun k hk k1 => (hs.block k (by omega) (.inl hk)).trans (h9 k hk k1)⟩

theorem PCt.below {X W : World} {T hi k : Nat} (h : PCt X W T hi k) (hT : T < X.heap.size) : Below T X W := ⟨h.os, h.tape, h.output, h.size, fun j hj => h.block j (by omega) (by omega)⟩

/-- One round of the loop behind the steps. -/
theorem PCt.next {X W : World} {T hi k : Nat} (h : PCt X W T hi k) (hT : T < X.heap.size) :
    KeepsIn X.heap.size hi W (W.setCell ⟨T, 0, none⟩ (.int .i64 ((k + 1 : Nat) : Int))) ∧ PCt X (W.setCell ⟨T, 0, none⟩ (.int .i64 ((k + 1 : Nat) : Int))) T hi (k + 1) := by
  have hg := grownBy_setCell' W T (.int .i64 ((k + 1 : Nat) : Int))
  refine ⟨KeepsIn.of_grownBy hg (fun r e => by cases e; left; omega), h.cnt.set _, hg.os.trans h.os, hg.tape.trans h.tape, hg.output.trans h.output, Nat.le_trans h.size hg.size, fun j hj hne => ?_⟩
  exact (hg.block j (Nat.lt_of_lt_of_le hj h.size) (fun e => hne (by cases e; rfl))).trans (h.block j hj hne)

set_option maxHeartbeats 800000 in
set_option maxRecDepth 100000 in
theorem allMakeP (v : Option Addr) (W : World) : Calls Try.prog 64 #[.pointer v] W fun e w' => e = .returned (.func (.func 162) #[] #[.pointer (some ⟨W.heap.size, 0, none⟩)]) ∧ w' = W.alloc (.cells #[.pointer v] 93) := by
  go_enter Try.func64, Try.ntmps64
  go_wp2
  go_ret
  exact ⟨rfl, rfl⟩

set_option maxHeartbeats 800000 in
set_option maxRecDepth 100000 in
theorem yieldsP (g : Nat) (lb : Array Value) (W : World) :
    Calls Try.prog 63 #[.func (.func g) #[] lb] W fun e w' => e = .returned (.func (.func g) #[] lb) ∧ w' = W := by
  have hq := fun w f x y => run_eql_func_nil (P := Try.prog) w Try.underlying112 f x y
  go_enter Try.func63, Try.ntmps63
  go_wp2
  go_ret
  exact ⟨rfl, rfl⟩

set_option maxHeartbeats 3200000 in
set_option maxRecDepth 100000 in
theorem plays_in (N : Nat) (hN : 10 ≤ N) (size id : Int) (a : Option Addr) (len cap : Nat) (xs : List (Int × Int × Int)) (hlen : xs.length = len) (hc63 : len ≤ 9223372036854775807) (w : World) (hX : StepsAt w a xs) (h150 : ¬ 150 < len) (hsz : ¬ (40 < size ∧ size ≤ 1024)) :
    CallsIn Fence.wide N Try.prog 8 #[.int .i64 size, .slice a len cap, .int .i64 id] w fun e w' => e = .returned (.bool true) ∧ Below w.heap.size w w' := by
  have h1 : 1 ≤ N := by omega
  have hd : decide ((150 : Int) < (len : Int)) = false := decide_eq_false (by omega)
  have hd2 : ¬ (150 : Int) < (len : Int) := by omega
  obtain ⟨W0, hW0⟩ : ∃ W0, W0 = w.alloc (.cells #[.bool false] 4) := ⟨_, rfl⟩
  have hs0 : W0.heap.size = w.heap.size + 1 := by rw [hW0]; simp
  have hb0 : Below w.heap.size w W0 := by rw [hW0]; exact (Below.refl _ _).alloc (Nat.le_refl _) _
  have bR : Boxed W0 w.heap.size 4 (.bool false) := by rw [hW0]; exact boxed_at4 rfl _ _
  have hk0 : Kept (fun k => k < W0.heap.size) W0 W0 := ⟨rfl, rfl, rfl, Nat.le_refl _, fun k hk => ⟨hk, rfl⟩⟩
  have HNW := Lib.hid (new2 W0 (fun k => k < W0.heap.size) size hsz W0 hk0)
  have HX0 := Lib.hid hX
  have HL := Lib.hid hlen
  have HB0 := Lib.hid (And.intro hb0 bR)
  clear hX hlen hk0 hb0 bR
  refine callsIn_of_wp_marks Try.func8 rfl trivial ?_ rfl
  simp only [Try.ntmps8, List.size_toArray, List.length_nil, List.length_cons, Nat.reduceAdd, Nat.reduceSub, Array.replicate_succ, Array.replicate_zero, List.push_toArray, List.append_toArray, List.nil_append, List.cons_append]
  have hcond : (decide (40 < size) && decide (size ≤ 1024)) = false := by
    cases hA : decide (40 < size) with
    | false => rfl
    | true =>
      rw [decide_eq_true_iff] at hA
      rw [Bool.true_and, decide_eq_false_iff_not]
      exact fun h => hsz ⟨hA, h⟩
  gi_wp2_with fail
  all_goals
    rw [← hW0]
    refine ⟨trivial, (callsIn_wide.2 HNW.out).mono ?_⟩
    rintro e W1 ⟨v0, n, rfl, hr⟩
    have hr' := hr.out
    clear hr
    gi_wp2_with fail
    refine ⟨trivial, (callsIn_wide.2 hr').mono ?_⟩
    rintro e W2 ⟨r0, rfl, hT, hvr⟩
    clear hr' HNW hcond hsz hd hd2
    have hnn : (n == n) = true := by simp
    have hz : v0.isNone = r0.isNone := by rcases hvr with ⟨rfl, rfl⟩ | ⟨⟨_, rfl⟩, _, rfl⟩ <;> rfl
    have hq0 := fun w => run_eql_ptr_nil (P := Try.prog) w Try.underlying93 (by kernel_rfl : (Try.prog.info? 120).isSome = true) v0
    have hq1 := fun w => run_eql_ptr_nil (P := Try.prog) w Try.underlying96 (by kernel_rfl : (Try.prog.info? 210).isSome = true) r0
    rw [hz] at hq0
    generalize r0.isNone = z at *
    have hzz : (z == z) = true := by simp
    clear hvr hz
    gi_wp2_with fail
  all_goals
    gi_loopw [7, 9, 11] (fun sa sb sc wr => ∃ (v r : Option Addr) (i : Nat), i ≤ len ∧ sa = .pointer v ∧ sb = .pointer r ∧ sc = .int .i64 i ∧ Hid (Two (fun k => k < W0.heap.size) W0 wr v r)) (fun _ _ sc _ => len - (intOf sc).toNat)
    case atStart => exact ⟨v0, r0, 0, Nat.zero_le _, rfl, rfl, rfl, hT⟩
    case round =>
      obtain ⟨v, r, i, hi, rfl, rfl, rfl, HT⟩ := hrel
      by_cases hlt : i < len
      · obtain ⟨x, hx⟩ : ∃ x, xs[i]? = some x := ⟨_, List.getElem?_eq_getElem (by rw [HL.out]; exact hlt)⟩
        obtain ⟨g, o, rfl, hg, c0, c1, c2⟩ := HX0.out i x hx
        obtain ⟨sd, si, sp⟩ := x
        have hgk : wr.heap[g]? = w.heap[g]? := by
          rw [(HT.out.kept.block g (by show g < W0.heap.size; omega)).2]
          exact HB0.out.1.block g hg
        have e0 := (cell_same (o := o + i * 3) hgk).trans c0
        have e1 := (cell_same (o := o + i * 3 + 1) hgk).trans c1
        have e2 := (cell_same (o := o + i * 3 + 2) hgk).trans c2
        have hi0 : (0 : Int) ≤ (i : Int) := by omega
        have hi1 : (i : Int) < (len : Int) := by omega
        clear c0 c1 c2 hgk hx
        obtain ⟨X1, hX1⟩ : ∃ X1, X1 = wr.alloc (.cells #[.int .i64 sd, .int .i64 si, .int .i64 sp] 100) := ⟨_, rfl⟩
        have hbX : Below wr.heap.size wr X1 := by rw [hX1]; exact (Below.refl _ _).alloc (Nat.le_refl _) _
        have hXs : X1.heap.size = wr.heap.size + 1 := by rw [hX1]; simp
        have hXb : X1.heap[wr.heap.size]? = some (.cells #[.int .i64 sd, .int .i64 si, .int .i64 sp] 100 (0, 0)) := by rw [hX1]; exact heap_alloc_new _ _
        have hW0r : W0.heap.size ≤ wr.heap.size := HT.out.kept.size
        have HT1 : Hid (Two (fun k => k < W0.heap.size ∨ k = wr.heap.size) X1 X1 v r) := Lib.hid (HT.out.rebase hbX (fun k hk => ⟨by rcases hk with h | h <;> omega, by rcases hk with h | h; exact .inl h; exact .inr (by omega)⟩))
        have HC : Hid (∀ w', Kept (fun k => k < W0.heap.size ∨ k = wr.heap.size) X1 w' → w'.cell? ⟨wr.heap.size, 1, none⟩ = some (.int .i64 si) ∧ w'.cell? ⟨wr.heap.size, 2, none⟩ = some (.int .i64 sp)) := Lib.hid fun w' hk => by
          have := (hk.block wr.heap.size (.inr rfl)).2
          constructor <;> simp [World.cell?, this, hXb]
        have HBK : Hid (∀ w' v' r', Two (fun k => k < W0.heap.size ∨ k = wr.heap.size) X1 w' v' r' → Hid (Two (fun k => k < W0.heap.size) W0 w' v' r')) := Lib.hid fun w' v' r' h => Lib.hid (h.mono (fun k hk => .inl hk) (HT.out.kept.trans hbX))
        obtain ⟨f1, f2⟩ := HC.out X1 HT1.out.kept
        have HKX := Lib.hid HT1.out.kept
        clear hbX hXs hXb
        gi_wp2_with fail
        all_goals (rw [← hX1]; clear hX1)
        · refine wpIn_wide.2 ?_
          go_region_held3 (fun w' => w'.cell? ⟨wr.heap.size, 1, none⟩ = some (.int .i64 si) ∧ w'.cell? ⟨wr.heap.size, 2, none⟩ = some (.int .i64 sp) ∧ Hid (Kept (fun k => k < W0.heap.size ∨ k = wr.heap.size) X1 w'))
            (first
              | exact ⟨f1, f2, HKX⟩
              | exact ⟨f1, f2, Lib.hid (HKX.out.trans (Below.refl _ _).drew)⟩
              | exact ⟨(HC.out _ HKA.out).1, (HC.out _ HKA.out).2, HKA⟩
              | exact ⟨(HC.out _ HTB.out.kept).1, (HC.out _ HTB.out.kept).2, Lib.hid HTB.out.kept⟩)
            (first
              | (go_at_call 54; refine HRA.out.mono ?_; rintro e wB ⟨rfl, HTB⟩)
              | (go_at_call 52; refine HRA.out.mono ?_; rintro e wB ⟨rfl, HTB⟩)
              | (go_at_call 51; refine (push2 (HT1.out.below (Below.refl _ _).drew) si sp).mono ?_; rintro e wA ⟨nn, rfl, HKA, HRA⟩)
              | (go_at_call 53; refine (change2 (HT1.out.below (Below.refl _ _).drew) si sp).mono ?_; rintro e wA ⟨nn, rfl, HKA, HRA⟩))
          have hnb : (nn == nn) = true := by simp
          gi_wp2_with fail
          refine ⟨trivial, (callsIn_wide.2 (alike2 HTB.out id)).mono ?_⟩
          rintro e wC ⟨rfl, HTC⟩
          obtain ⟨f3, f4⟩ := HC.out wC HTC.out.kept
          gi_wp2_with fail
          refine ⟨trivial, (callsIn_wide.2 (alike2 HTC.out si)).mono ?_⟩
          rintro e wD ⟨rfl, HTD⟩
          have HTE := HBK.out _ _ _ HTD.out
          gi_wp2_with fail
          go_roundw
          case rel => exact ⟨v, r, i + 1, by omega, rfl, rfl, by go_num, HTE⟩
          case measure => simp [intOf]; omega
        · refine wpIn_wide.2 ?_
          go_region_held3 (fun w' => w'.cell? ⟨wr.heap.size, 1, none⟩ = some (.int .i64 si) ∧ w'.cell? ⟨wr.heap.size, 2, none⟩ = some (.int .i64 sp) ∧ Hid (Kept (fun k => k < W0.heap.size ∨ k = wr.heap.size) X1 w'))
            (first
              | exact ⟨f1, f2, HKX⟩
              | exact ⟨f1, f2, Lib.hid (HKX.out.trans (Below.refl _ _).drew)⟩
              | exact ⟨(HC.out _ HKA.out).1, (HC.out _ HKA.out).2, HKA⟩
              | exact ⟨(HC.out _ HTB.out.kept).1, (HC.out _ HTB.out.kept).2, Lib.hid HTB.out.kept⟩)
            (first
              | (go_at_call 54; refine HRA.out.mono ?_; rintro e wB ⟨rfl, HTB⟩)
              | (go_at_call 52; refine HRA.out.mono ?_; rintro e wB ⟨rfl, HTB⟩)
              | (go_at_call 51; refine (push2 (HT1.out.below (Below.refl _ _).drew) si sp).mono ?_; rintro e wA ⟨nn, rfl, HKA, HRA⟩)
              | (go_at_call 53; refine (change2 (HT1.out.below (Below.refl _ _).drew) si sp).mono ?_; rintro e wA ⟨nn, rfl, HKA, HRA⟩))
          have hnb : (nn == nn) = true := by simp
          gi_wp2_with fail
          refine ⟨trivial, (callsIn_wide.2 (alike2 HTB.out id)).mono ?_⟩
          rintro e wC ⟨rfl, HTC⟩
          obtain ⟨f3, f4⟩ := HC.out wC HTC.out.kept
          gi_wp2_with fail
          refine ⟨trivial, (callsIn_wide.2 (alike2 HTC.out si)).mono ?_⟩
          rintro e wD ⟨rfl, HTD⟩
          have HTE := HBK.out _ _ _ HTD.out
          gi_wp2_with fail
          go_roundw
          case rel => exact ⟨v, r, i + 1, by omega, rfl, rfl, by go_num, HTE⟩
          case measure => simp [intOf]; omega
        · refine ⟨trivial, (callsIn_wide.2 (remove2 HT1.out si)).mono ?_⟩
          rintro e wA ⟨nn, oo, rfl, HKA, HRA⟩
          have hR := HRA.out
          obtain ⟨f5, f6⟩ := HC.out wA HKA.out
          clear HRA
          gi_wp2_with fail
          refine ⟨trivial, (callsIn_wide.2 hR).mono ?_⟩
          rintro e wB ⟨rfl, HTB⟩
          have hnb : (nn == nn) = true := by simp
          have hob : (oo == oo) = true := by simp
          clear hR
          gi_wp2_with fail
          refine ⟨trivial, (callsIn_wide.2 (alike2 HTB.out id)).mono ?_⟩
          rintro e wC ⟨rfl, HTC⟩
          obtain ⟨f3, f4⟩ := HC.out wC HTC.out.kept
          gi_wp2_with fail
          refine ⟨trivial, (callsIn_wide.2 (alike2 HTC.out si)).mono ?_⟩
          rintro e wD ⟨rfl, HTD⟩
          have HTE := HBK.out _ _ _ HTD.out
          gi_wp2_with fail
          go_roundw
          case rel => exact ⟨v, r, i + 1, by omega, rfl, rfl, by go_num, HTE⟩
          case measure => simp [intOf]; omega
        · refine ⟨trivial, (callsIn_wide.2 (pop2 HT1.out)).mono ?_⟩
          rintro e wA ⟨ii, nn, oo, rfl, HRA⟩
          have hR := HRA.out
          clear HRA
          gi_wp2_with fail
          refine ⟨trivial, (callsIn_wide.2 hR).mono ?_⟩
          rintro e wB ⟨rfl, HTB⟩
          have hib : (ii == ii) = true := by simp
          have hnb : (nn == nn) = true := by simp
          have hob : (oo == oo) = true := by simp
          clear hR
          gi_wp2_with fail
          refine ⟨trivial, (callsIn_wide.2 (alike2 HTB.out id)).mono ?_⟩
          rintro e wC ⟨rfl, HTC⟩
          obtain ⟨f3, f4⟩ := HC.out wC HTC.out.kept
          gi_wp2_with fail
          refine ⟨trivial, (callsIn_wide.2 (alike2 HTC.out si)).mono ?_⟩
          rintro e wD ⟨rfl, HTD⟩
          have HTE := HBK.out _ _ _ HTD.out
          gi_wp2_with fail
          go_roundw
          case rel => exact ⟨v, r, i + 1, by omega, rfl, rfl, by go_num, HTE⟩
          case measure => simp [intOf]; omega
        · refine ⟨trivial, (callsIn_wide.2 (copy2 HT1.out)).mono ?_⟩
          rintro e wA ⟨v', rfl, HRA⟩
          have hR := HRA.out
          clear HRA
          gi_wp2_with fail
          refine ⟨trivial, (callsIn_wide.2 hR).mono ?_⟩
          rintro e wB ⟨r', rfl, HTB⟩
          clear hR
          gi_wp2_with fail
          refine ⟨trivial, (callsIn_wide.2 (alike2 HTB.out id)).mono ?_⟩
          rintro e wC ⟨rfl, HTC⟩
          obtain ⟨f3, f4⟩ := HC.out wC HTC.out.kept
          gi_wp2_with fail
          refine ⟨trivial, (callsIn_wide.2 (alike2 HTC.out si)).mono ?_⟩
          rintro e wD ⟨rfl, HTD⟩
          have HTE := HBK.out _ _ _ HTD.out
          gi_wp2_with fail
          go_roundw
          case rel => exact ⟨v', r', i + 1, by omega, rfl, rfl, by go_num, HTE⟩
          case measure => simp [intOf]; omega
        · refine ⟨trivial, (callsIn_wide.2 (alike2 HT1.out id)).mono ?_⟩
          rintro e wC ⟨rfl, HTC⟩
          obtain ⟨f3, f4⟩ := HC.out wC HTC.out.kept
          gi_wp2_with fail
          refine ⟨trivial, (callsIn_wide.2 (alike2 HTC.out si)).mono ?_⟩
          rintro e wD ⟨rfl, HTD⟩
          have HTE := HBK.out _ _ _ HTD.out
          gi_wp2_with fail
          go_roundw
          case rel => exact ⟨v, r, i + 1, by omega, rfl, rfl, by go_num, HTE⟩
          case measure => simp [intOf]; omega
      · have hnl : ¬ (i : Int) < (len : Int) := by omega
        have HTr := Lib.hid (all2 HT.out)
        have HKP := Lib.hid HT.out.kept
        clear hnn hzz hq0 hq1 HX0 HL hW0 HT
        gi_wp2_with fail
        refine ⟨trivial, (callsIn_wide.2 HTr.out).mono ?_⟩
        rintro e wA ⟨v1, v2, l, rfl, HBA, HRW, hcl, HSQ⟩
        obtain ⟨p1, c1, rfl, hc1, hc163⟩ := ownsRow_slice4 HRW.out.1
        obtain ⟨p2, c2, rfl, hc2, hc263⟩ := ownsRow_slice4 HRW.out.2
        clear HTr
        gi_wp2_with fail
        refine ⟨trivial, (callsIn_wide.2 (allMakeP v _)).mono ?_⟩
        rintro e W9 ⟨rfl, rfl⟩
        gi_wp2_with fail
        obtain ⟨Q, hQ⟩ : ∃ Q, Q = wA.heap.size := ⟨_, rfl⟩
        obtain ⟨X, hX⟩ : ∃ X, X = (((wA.alloc (.cells #[.slice p1 l.length c1] 53)).alloc (.cells #[.slice p2 l.length c2] 109)).alloc (.cells #[.int .i64 0] 3)).alloc (.cells #[.pointer v] 93) := ⟨_, rfl⟩
        have hXs : X.heap.size = Q + 4 := by rw [hX, hQ]; simp
        have hXb : Below Q wA X := by rw [hX, hQ]; exact ((((Below.refl _ _).alloc (Nat.le_refl _) _).alloc (by simp) _).alloc (by simp; omega) _).alloc (by simp; omega) _
        have b1 : Boxed X Q 53 (.slice p1 l.length c1) := by rw [hX]; exact (((boxed_at4 hQ.symm _ _).alloc _).alloc _).alloc _
        have b2 : Boxed X (Q + 1) 109 (.slice p2 l.length c2) := by rw [hX]; exact ((boxed_at4 (by simp [hQ]) _ _).alloc _).alloc _
        have b3 : Boxed X (Q + 1 + 1) 3 (.int .i64 0) := by rw [hX]; exact (boxed_at4 (by simp [hQ]) _ _).alloc _
        have b4 : Boxed X (Q + 1 + 1 + 1) 93 (.pointer v) := by rw [hX]; exact boxed_at4 (by simp [hQ]) _ _
        have HR1 : Hid (∀ (j : Nat) (x : Nat × Int), l[j]? = some x → ∃ g, p1 = some ⟨g, 0, none⟩ ∧ g < Q ∧ X.cell? ⟨g, j, none⟩ = some (.int .i64 (x.1 : Nat))) := fun j x hx => by
          obtain ⟨g, e1, _, e2, e3⟩ := ownsRow_at4 HRW.out.1 (j := j) (u := .int .i64 (x.1 : Nat)) (by rw [List.getElem?_map, hx]; rfl)
          exact ⟨g, e1, by omega, (hXb.cell (p := ⟨g, j, none⟩) (by show g < Q; omega)).trans e3⟩
        have HR2 : Hid (∀ (j : Nat) (x : Nat × Int), l[j]? = some x → ∃ g, p2 = some ⟨g, 0, none⟩ ∧ g < Q ∧ X.cell? ⟨g, j, none⟩ = some (.int .i64 x.2)) := fun j x hx => by
          obtain ⟨g, e1, _, e2, e3⟩ := ownsRow_at4 HRW.out.2 (j := j) (u := .int .i64 x.2) (by rw [List.getElem?_map, hx]; rfl)
          exact ⟨g, e1, by omega, (hXb.cell (p := ⟨g, j, none⟩) (by show g < Q; omega)).trans e3⟩
        have hWQ : W0.heap.size ≤ Q := by have := HKP.out.size; have := HBA.out.size; omega
        have hWr : W0.heap.size ≤ wr.heap.size := HKP.out.size
        have hwrQ : wr.heap.size ≤ Q := by rw [hQ]; exact HBA.out.size
        have bRX : Boxed X w.heap.size 4 (.bool false) := (hXb.block _ (by omega)).trans ((HBA.out.block _ (by omega)).trans ((HKP.out.block w.heap.size (by show w.heap.size < W0.heap.size; omega)).2.trans HB0.out.2))
        have hbwr : Below w.heap.size w wr := ⟨HKP.out.os.trans HB0.out.1.os, HKP.out.tape.trans HB0.out.1.tape, HKP.out.output.trans HB0.out.1.output, by omega, fun k hk => (HKP.out.block k (by show k < W0.heap.size; omega)).2.trans (HB0.out.1.block k hk)⟩
        have hbwX : Below w.heap.size w X := (hbwr.trans (HBA.out.mono (by omega))).trans (hXb.mono (by omega))
        have hseq := HSQ.out X (Q + 1 + 1 + 1) (N - 1) (HBA.out.trans (hXb.mono (by omega))) b4.cell (by omega)
        have HB1 := Lib.hid b1
        have HB2 := Lib.hid b2
        have HB3 := Lib.hid b3
        have HBX := Lib.hid (And.intro bRX hbwX)
        refine ⟨trivial, (callsIn_wide.2 (yieldsP _ _ _)).mono ?_⟩
        rintro e W10 ⟨rfl, rfl⟩
        gi_wp2_with fail
        rw [← hX, ← hQ]
        clear hX hXb b1 b2 b3 b4 bRX hbwr hbwX HRW HBA HSQ HKP HB0 hQ
        refine rangeOwnA (encs := encPL) (fun x T => ((((T.setIfInBounds 180 (.int .i64 (x.1 : Nat))).setIfInBounds 181 (.int .i64 x.2)).setIfInBounds 26 (.int .i64 (x.1 : Nat))).setIfInBounds 27 (.int .i64 x.2))) rfl h1 (gf := 162) (lb := #[.pointer (some ⟨Q + 1 + 1 + 1, 0, none⟩)]) rfl trivial (enters_of Try.func162 (by kernel_rfl) rfl)
          hseq (Below.refl _ _) (fun _ => rfl) (fun hi pre W => PCt X W (Q + 1 + 1) hi pre.length) (fun _ _ _ _ => False)
          (fun hi s A C h _ hs => h.step (by omega) hs) (fun hi c s A C h _ hs => h)
          (fun A hA _ => ⟨(hA.block _ (by omega)).trans HB3.out, hA.os, hA.tape, hA.output, hA.size, fun k hk _ => hA.block k hk⟩) ?assignP ?bodyP ?doneP ?stopP
        case assignP =>
          intro lr x W K hK
          unfold encPL
          gi_wp2
          exact hK
        case stopP => exact fun _ _ _ _ _ _ _ _ h => h.elim
        case bodyP =>
          rintro lr hi pre x W hhi hC hat
          have hct := hC.cnt.cell
          have hcf := hC.cnt.frozen
          have hlow := hC.below (by omega)
          have hbx1 : Boxed W Q 53 (.slice p1 l.length c1) := (hlow.block _ (by omega)).trans HB1.out
          have hbx2 : Boxed W (Q + 1) 109 (.slice p2 l.length c2) := (hlow.block _ (by omega)).trans HB2.out
          have hc1' := hbx1.cell
          have hc2' := hbx2.cell
          obtain ⟨g1, rfl, hg1, e1⟩ := HR1.out pre.length x hat
          obtain ⟨g2, rfl, hg2, e2⟩ := HR2.out pre.length x hat
          have d1 := (hlow.cell (p := ⟨g1, pre.length, none⟩) (by show g1 < Q + 1 + 1; omega)).trans e1
          have d2 := (hlow.cell (p := ⟨g2, pre.length, none⟩) (by show g2 < Q + 1 + 1; omega)).trans e2
          have hpl : pre.length < l.length := (List.getElem?_eq_some_iff.1 hat).1
          have hltI : (pre.length : Int) < (l.length : Int) := by omega
          have hnle : ¬ (l.length : Int) ≤ (pre.length : Int) := by omega
          have hp0 : (0 : Int) ≤ (pre.length : Int) := by omega
          have HFB : Hid (KeepsIn X.heap.size hi W (W.setCell ⟨Q + 1 + 1, 0, none⟩ (.int .i64 ((pre.length + 1 : Nat) : Int))) ∧ PCt X (W.setCell ⟨Q + 1 + 1, 0, none⟩ (.int .i64 ((pre.length + 1 : Nat) : Int))) (Q + 1 + 1) hi (pre ++ [x]).length) := by
            have := hC.next (by omega : Q + 1 + 1 < X.heap.size)
            rw [List.length_append, List.length_singleton]
            exact this
          obtain ⟨xi, xp⟩ := x
          dsimp only at *
          clear hbx1 hbx2 hlow hC hat e1 e2 hseq HB1 HB2 HB3 HR1 HR2
          simp only [List.setIfInBounds_toArray, List.set_cons_succ, List.set_cons_zero]
          gi_wp2_with fail
          first
            | exact HFB.out
            | (have hk1 := HFB.out.1; rw [hXs] at hk1; exact ⟨hk1, HFB.out.2⟩)
        case doneP =>
          rintro D hi ys Z hD hh rfl hC hK3
          have hcz := hC.cnt.cell
          have hlow := hC.below (by omega)
          have hbx1 : Boxed Z Q 53 (.slice p1 ys.length c1) := (hlow.block _ (by omega)).trans HB1.out
          have hc1' := hbx1.cell
          have HE := Lib.hid (And.intro ((hlow.block _ (by omega)).trans HBX.out.1 : Boxed Z w.heap.size 4 (.bool false)) (And.intro hK3 (HBX.out.2.trans (hlow.mono (by omega)))))
          clear hbx1 hlow hC hseq HB1 HB2 HB3 HR1 HR2 HBX hK3
          gi_wp2_with fail
          refine ⟨trivial, (callsIn_wide.2 (works4_any Z)).mono ?_⟩
          rintro e V3 ⟨rfl, hb3⟩
          have hr3 : Boxed V3 w.heap.size 4 (.bool false) := (hb3.block _ (Boxed.lt HE.out.1)).trans HE.out.1
          have hd1 : V3.heap[D]? = some (.deferred (some [])) := (hb3.block _ (Array.getElem?_eq_some_iff.1 HE.out.2.1).1).trans HE.out.2.1
          have hbw : Below w.heap.size w V3 := HE.out.2.2.trans (hb3.mono HE.out.2.2.size)
          have cr := hr3.cell
          have fr := hr3.frozen
          have HE2 := Lib.hid (And.intro hr3 (And.intro hd1 hbw))
          clear hr3 hd1 hbw hb3 HE
          gi_wp2_with fail
          have b1 := HE2.out.1.set (.bool true)
          have e1 : (V3.setCell ⟨w.heap.size, 0, none⟩ (.bool true)).heap[D]? = some (.deferred (some [])) := (Below.heap_setCell _ _ _ _ (by show D ≠ w.heap.size; omega)).trans HE2.out.2.1
          refine ⟨by simp, .inl ⟨_, _, rfl, run_takeDeferred e1, ?_⟩⟩
          have b2 := b1.kept (grownBy_putObj' _ D (.deferred none)) (by simp; omega)
          have hc5 := b2.cell
          refine ⟨.bool true, ?_, rfl, ?_⟩
          · simp [results, Try.f8, go_sem, hc5]
          · have g0 := HE2.out.2.2.setCell (p := ⟨w.heap.size, 0, none⟩) (Nat.le_refl _) (.bool true)
            exact g0.grown (grownBy_putObj' _ D (.deferred none)) g0.size (fun k e => by cases e; omega)
end Go.Proofs.Ytpnhklehpilopaa
