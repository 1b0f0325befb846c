/- HistoryPlays, for every input. -/
import Derived.Test.YtahccgbmbnmcgaaHiOpenS
import Derived.Test.YtahccgbmbnmcgaaHiWorks
import Derived.Deep.RegionHeld3
namespace Go.Proofs.Ytahccgbmbnmcgaa
open Go Go.RowKit

/-- What stands at the head of the loop: the pair that is played on lies from S on, the pair that was left below S. -/
def St7 (w wr : World) (i : Nat) (v v2 ov ov2 : Option Addr) : Prop :=
  ∃ S, w.heap.size ≤ S ∧ S ≤ wr.heap.size ∧ Below w.heap.size w wr ∧ Pair (fun k => k < S) wr i v v2 ∧ Pair (fun k => S ≤ k) wr i ov ov2

/-- What stands in a round behind the call: the blocks below S, and the step's. -/
def Rd7 (w X1 W2 : World) (xb i : Nat) (v v2 ov ov2 : Option Addr) : Prop :=
  Kp (fun k => k < w.heap.size ∨ k = xb) X1 W2 ∧ St7 w W2 i v v2 ov ov2

theorem St7.below {w wr w' : World} {i : Nat} {v v2 ov ov2 : Option Addr} (h : St7 w wr i v v2 ov ov2) (hb : Below wr.heap.size wr w') : St7 w w' i v v2 ov ov2 := by
  obtain ⟨S, h1, h2, h3, h4, h5⟩ := h
  exact ⟨S, h1, Nat.le_trans h2 hb.size, h3.trans (hb.mono h3.size), h4.below hb, h5.below hb⟩

theorem St7.more {w wr : World} {i j : Nat} {v v2 ov ov2 : Option Addr} (h : St7 w wr i v v2 ov ov2) (hj : i ≤ j) : St7 w wr j v v2 ov ov2 := by
  obtain ⟨S, h1, h2, h3, h4, h5⟩ := h
  exact ⟨S, h1, h2, h3, h4.more hj, h5.more hj⟩

theorem St7.shows {w wr : World} {i : Nat} {v v2 ov ov2 : Option Addr} (h : St7 w wr i v v2 ov ov2) (hi : i < 1000) (k : Int) :
    (Calls Try.prog 23 #[.pointer v, .pointer v2, .int .i64 k] wr fun e w' => e = .returned (.bool true) ∧ Hid (Below wr.heap.size wr w')) ∧
    (Calls Try.prog 23 #[.pointer ov, .pointer ov2, .int .i64 k] wr fun e w' => e = .returned (.bool true) ∧ Hid (Below wr.heap.size wr w')) := by
  obtain ⟨S, h1, h2, h3, h4, h5⟩ := h
  exact ⟨shows2 h4 hi k, shows2 h5 hi k⟩

/-- A call on both, in a round. -/
theorem St7.done {w X1 W2 : World} {xb S i j : Nat} {v v2 ov ov2 : Option Addr} (h1 : w.heap.size ≤ S) (h2 : S ≤ X1.heap.size) (h3 : Below w.heap.size w X1) (h5 : Pair (fun k => S ≤ k) X1 i ov ov2) (hj : i ≤ j)
    (hP : Pair (fun k => k < S ∨ k = xb) W2 j v v2) (hK : Kp (fun k => k < S ∨ k = xb) X1 W2) : Rd7 w X1 W2 xb j v v2 ov ov2 :=
  ⟨hK.weak (fun k hk => by rcases hk with hk | hk; exact .inl (by omega); exact .inr hk), S, h1, Nat.le_trans h2 hK.size, h3.trans (hK.below (fun k hk => .inl (by omega)) h3.size),
    hP.weak (fun k _ hk => .inl hk), (h5.keep hK (fun k _ hk => .inl (by omega))).more hj⟩

/-- A copy of both, in a round. -/
theorem St7.copied {w X1 W2 : World} {xb S i : Nat} {v v2 u u2 : Option Addr} (h1 : w.heap.size ≤ S) (h2 : S ≤ X1.heap.size) (h3 : Below w.heap.size w X1)
    (hP : Pair (fun k => k < S ∨ k = xb) X1 i v v2) (hC : Pair (fun k => k < X1.heap.size) W2 i u u2) (hb : Below X1.heap.size X1 W2) : Rd7 w X1 W2 xb i u u2 v v2 :=
  ⟨Kp.of_below hb, X1.heap.size, Nat.le_trans h1 h2, hb.size, h3.trans (hb.mono h3.size), hC, (hP.weak (G := fun k => X1.heap.size ≤ k) (fun k h h' => by omega)).below hb⟩

set_option maxHeartbeats 6400000 in
set_option maxRecDepth 100000 in
theorem plays_any (most : Int) (a : Option Addr) (len cap : Nat) (xs : List (Nat × ByteArray × Int)) (hlen : xs.length = len) (hcap : len ≤ cap) (hc63 : cap ≤ 9223372036854775807) (ix : Int) (w : World) (hX : StepsAt w w.heap.size a xs) :
    Calls Try.prog 3 #[.int .i64 most, .slice a len cap, .int .i64 ix] w fun e w' => e = .returned (.bool true) ∧ Below w.heap.size w w' := by
  have HW : Hid (∀ W, Calls Try.prog 10 #[] W fun e w' => e = .returned (.bool true) ∧ Below W.heap.size W w') := Lib.hid works7_any
  by_cases h100 : 100 < len
  · have hwk := works7_any w
    have hd : (100 : Int) < (len : Int) := by omega
    clear hX hlen
    go_enter Try.func3, Try.ntmps3
    go_wp2_with (go_at_call 10; refine hwk.mono ?_; rintro e w1 ⟨rfl, hb⟩)
    go_ret
    exact ⟨rfl, hb⟩
  · have hd : ¬ (100 : Int) < (len : Int) := by omega
    obtain ⟨e0, hnew⟩ := new2 most w
    have HX := Lib.hid hX
    have HLEN := Lib.hid hlen
    have hl100 : len ≤ 100 := by omega
    clear hX hlen h100
    go_enter Try.func3, Try.ntmps3
    go_wp2_with fail
    refine hnew.mono ?_
    rintro e w1 ⟨v0, rfl, -, hnew2⟩
    have hn2 := hnew2.out
    clear hnew hnew2
    go_wp2_with fail
    refine hn2.mono ?_
    rintro e w2 ⟨u0, rfl, hvu, hP⟩
    have HO : Hid (St7 w w2 0 v0 u0 none none) := Lib.hid ⟨w.heap.size, Nat.le_refl _, hP.out.2.size, hP.out.2, hP.out.1, Pair.nils _ _ _⟩
    clear hn2 hP
    rcases hvu with ⟨rfl, rfl⟩ | ⟨⟨x1, y1, s1⟩, ⟨x2, y2, s2⟩, rfl, rfl⟩
    all_goals go_wp2_with fail
    all_goals go_loopw [7, 9, 11, 12, 43] (fun sa sb sc sd se wr => ∃ (i : Nat) (v v2 ov ov2 : Option Addr), i ≤ len ∧ sa = .pointer v ∧ sb = .pointer v2 ∧ sc = .pointer ov ∧ sd = .pointer ov2 ∧ se = .int .i64 i ∧ Hid (St7 w wr i v v2 ov ov2)) (fun _ _ _ _ se _ => len - (intOf se).toNat)
    all_goals first | exact ⟨0, _, _, _, _, Nat.zero_le _, rfl, rfl, rfl, rfl, rfl, HO⟩ | skip
    all_goals
      obtain ⟨i, v, v2, ov, ov2, hi, rfl, rfl, rfl, rfl, rfl, HT⟩ := hrel
      clear HO
      by_cases hlt : i < len
      · obtain ⟨⟨k, s, nn⟩, hx⟩ : ∃ x, xs[i]? = some x := ⟨_, List.getElem?_eq_getElem (by rw [HLEN.out]; omega)⟩
        obtain ⟨⟨g, o, rfl, hg, e0, e1, e2⟩, hk, hn1, hn2⟩ := HX.out i _ hx
        dsimp only at e0 e1 e2 hk hn1 hn2
        obtain ⟨S, hwS, hSr, hbw, hP, hQ⟩ := HT.out
        have e0' := (hbw.cell (p := ⟨g, o + i * 3, none⟩) hg).trans e0
        have e1' := (hbw.cell (p := ⟨g, o + i * 3 + 1, none⟩) hg).trans e1
        have e2' := (hbw.cell (p := ⟨g, o + i * 3 + 2, none⟩) hg).trans e2
        obtain ⟨X1, hX1⟩ : ∃ X1, X1 = wr.alloc (.cells #[.int .u8 k, .string s, .int .i64 nn] 32) := ⟨_, rfl⟩
        have hbX : Below wr.heap.size wr X1 := by rw [hX1]; exact (Below.refl _ _).alloc (Nat.le_refl _) _
        have hX1s : X1.heap.size = wr.heap.size + 1 := by rw [hX1]; simp
        have hXb : X1.heap[wr.heap.size]? = some (.cells #[.int .u8 k, .string s, .int .i64 nn] 32 (0, 0)) := by rw [hX1]; exact heap_alloc_new _ _
        have f0 : X1.cell? ⟨wr.heap.size, 0, none⟩ = some (.int .u8 k) := by simp [World.cell?, hXb]
        have f1 : X1.cell? ⟨wr.heap.size, 1, none⟩ = some (.string s) := by simp [World.cell?, hXb]
        have f2 : X1.cell? ⟨wr.heap.size, 2, none⟩ = some (.int .i64 nn) := by simp [World.cell?, hXb]
        have hPX : Pair (fun k => k < S ∨ k = wr.heap.size) X1 i v v2 := (hP.weak (fun k h1 h2 => by rcases h2 with h2 | h2; exact h2; omega)).below hbX
        have hQX : Pair (fun k => S ≤ k) X1 i ov ov2 := hQ.below hbX
        have hbwX : Below w.heap.size w X1 := hbw.trans (hbX.mono hbw.size)
        have HC : Hid (∀ V, Kp (fun k => k < w.heap.size ∨ k = wr.heap.size) X1 V → V.cell? ⟨wr.heap.size, 1, none⟩ = some (.string s) ∧ V.cell? ⟨wr.heap.size, 2, none⟩ = some (.int .i64 nn)) := Lib.hid fun V hV => by
          have hh := hV.block wr.heap.size (by omega) (.inr rfl)
          exact ⟨by simp [World.cell?, hh, hXb], by simp [World.cell?, hh, hXb]⟩
        have HPX := Lib.hid hPX
        have HF : Hid (∀ k, (k < S ∨ k = wr.heap.size) → k < X1.heap.size) := Lib.hid fun k hk => by omega
        have HDN : Hid (∀ V j, i ≤ j → Pair (fun k => k < S ∨ k = wr.heap.size) V j v v2 → Kp (fun k => k < S ∨ k = wr.heap.size) X1 V → Rd7 w X1 V wr.heap.size j v v2 ov ov2) := Lib.hid fun V j hj h1 h2 => St7.done hwS (by omega) hbwX hQX hj h1 h2
        have HCP : Hid (∀ V u u2, Pair (fun k => k < X1.heap.size) V i u u2 → Below X1.heap.size X1 V → Rd7 w X1 V wr.heap.size i u u2 v v2) := Lib.hid fun V u u2 h1 h2 => St7.copied hwS (by omega) hbwX hPX h1 h2
        have HKG : Hid (∀ V, Kp (fun k => k < S ∨ k = wr.heap.size) X1 V → Kp (fun k => k < w.heap.size ∨ k = wr.heap.size) X1 V) := Lib.hid fun V hV => hV.weak (fun k hk => by rcases hk with hk | hk; exact .inl (by omega); exact .inr hk)
        have HBW := Lib.hid hbwX
        have hi0 : (0 : Int) ≤ (i : Int) := by omega
        have hi1 : (i : Int) < (len : Int) := by omega
        have hi2 : i < 1000 - 1 := by omega
        clear e0 e1 e2 hx hbw hP hQ hbX hX1s hXb hPX hQX hbwX hwS hSr HT
        by_cases h9 : 100 < s.size
        · have hd9 : (100 : Int) < (s.size : Int) := by omega
          go_wp2_with fail
          rw [← hX1]
          clear hX1
          go_wp2_with fail
          refine (HW.out _).mono ?_
          rintro e V3 ⟨rfl, hb9⟩
          go_wp2_with fail
          go_ret
          exact ⟨rfl, HBW.out.trans (hb9.mono HBW.out.size)⟩
        · have hd9 : ¬ (100 : Int) < (s.size : Int) := by omega
          obtain ⟨r, hr⟩ : ∃ r, r = k % 8 := ⟨_, rfl⟩
          have hr2 : (k : Int) % 8 = (r : Int) := by omega
          have hr8 : r = 0 ∨ r = 1 ∨ r = 2 ∨ r = 3 ∨ r = 4 ∨ r = 5 ∨ r = 6 ∨ r = 7 := by omega
          clear hr
          go_wp2_with fail
          all_goals (rw [← hX1]; clear hX1)
          all_goals have HKX : Hid (Kp (fun k => k < w.heap.size ∨ k = wr.heap.size) X1 X1) := Lib.hid (Kp.of_below (Below.refl _ _))
          · obtain ⟨ea, hA⟩ := add2 (HPX.out.below (Below.refl _ _).drew) HF.out s
            have HA := Lib.hid hA
            clear hA
            go_region_held3 (fun V => V.cell? ⟨wr.heap.size, 1, none⟩ = some (.string s) ∧ Hid (Kp (fun k => k < w.heap.size ∨ k = wr.heap.size) X1 V))
              (first
                | exact ⟨f1, HKX⟩
                | exact ⟨f1, Lib.hid (HKX.out.trans (Kp.of_below (Below.refl _ _).drew))⟩
                | exact ⟨(HC.out _ HKA.out).1, HKA⟩
                | exact ⟨(HC.out _ HRD.out.1).1, Lib.hid HRD.out.1⟩)
              (first
                | (go_at_call 14; refine (HTA.out 0).mono ?_; rintro e WB ⟨⟨_, rfl, rfl⟩, HPB⟩; have HRD := Lib.hid (HDN.out _ _ (by omega) HPB.out.1 ((Kp.of_below (Below.refl _ _).drew).trans HPB.out.2)))
                | (go_at_call 13; refine HA.out.mono ?_; rintro e WA ⟨rfl, HKA0, HTA⟩; have HKA := Lib.hid (HKG.out _ ((Kp.of_below (Below.refl _ _).drew).trans HKA0.out))))
            have hnb : ((ea : Int) == (ea : Int)) = true := by simp
            have hnb0 : ((0:Int) == (0:Int)) = true := by simp
            go_wp2_with fail
            refine ((HRD.out.2.shows (by omega) ix).1).mono ?_
            rintro e W3 ⟨rfl, HB3⟩
            have HK3 : Hid (Kp (fun k => k < w.heap.size ∨ k = wr.heap.size) X1 W3) := Lib.hid (HRD.out.1.trans (Kp.of_below HB3.out))
            have hx3 := (HC.out _ HK3.out).2
            have HS3 := Lib.hid (HRD.out.2.below HB3.out)
            go_wp2_with fail
            refine ((HS3.out.shows (by omega) nn).1).mono ?_
            rintro e W4 ⟨rfl, HB4⟩
            have HS4 := Lib.hid (HS3.out.below HB4.out)
            clear hx3
            go_wp2_with fail
            refine ((HS4.out.shows (by omega) ix).2).mono ?_
            rintro e W5 ⟨rfl, HB5⟩
            have HS5 := Lib.hid (HS4.out.below HB5.out)
            go_wp2_with fail
            go_roundw
            case rel => exact ⟨i + 1, v, v2, ov, ov2, by omega, rfl, rfl, rfl, rfl, by go_num, Lib.hid (HS5.out.more (by omega))⟩
            case measure => simp [intOf]; omega
          · obtain ⟨ea, hA⟩ := add2 (HPX.out.below (Below.refl _ _).drew) HF.out s
            have HA := Lib.hid hA
            clear hA
            go_region_held3 (fun V => V.cell? ⟨wr.heap.size, 1, none⟩ = some (.string s) ∧ Hid (Kp (fun k => k < w.heap.size ∨ k = wr.heap.size) X1 V))
              (first
                | exact ⟨f1, HKX⟩
                | exact ⟨f1, Lib.hid (HKX.out.trans (Kp.of_below (Below.refl _ _).drew))⟩
                | exact ⟨(HC.out _ HKA.out).1, HKA⟩
                | exact ⟨(HC.out _ HRD.out.1).1, Lib.hid HRD.out.1⟩)
              (first
                | (go_at_call 14; refine (HTA.out 0).mono ?_; rintro e WB ⟨⟨_, rfl, rfl⟩, HPB⟩; have HRD := Lib.hid (HDN.out _ _ (by omega) HPB.out.1 ((Kp.of_below (Below.refl _ _).drew).trans HPB.out.2)))
                | (go_at_call 13; refine HA.out.mono ?_; rintro e WA ⟨rfl, HKA0, HTA⟩; have HKA := Lib.hid (HKG.out _ ((Kp.of_below (Below.refl _ _).drew).trans HKA0.out))))
            have hnb : ((ea : Int) == (ea : Int)) = true := by simp
            have hnb0 : ((0:Int) == (0:Int)) = true := by simp
            go_wp2_with fail
            refine ((HRD.out.2.shows (by omega) ix).1).mono ?_
            rintro e W3 ⟨rfl, HB3⟩
            have HK3 : Hid (Kp (fun k => k < w.heap.size ∨ k = wr.heap.size) X1 W3) := Lib.hid (HRD.out.1.trans (Kp.of_below HB3.out))
            have hx3 := (HC.out _ HK3.out).2
            have HS3 := Lib.hid (HRD.out.2.below HB3.out)
            go_wp2_with fail
            refine ((HS3.out.shows (by omega) nn).1).mono ?_
            rintro e W4 ⟨rfl, HB4⟩
            have HS4 := Lib.hid (HS3.out.below HB4.out)
            clear hx3
            go_wp2_with fail
            refine ((HS4.out.shows (by omega) ix).2).mono ?_
            rintro e W5 ⟨rfl, HB5⟩
            have HS5 := Lib.hid (HS4.out.below HB5.out)
            go_wp2_with fail
            go_roundw
            case rel => exact ⟨i + 1, v, v2, ov, ov2, by omega, rfl, rfl, rfl, rfl, by go_num, Lib.hid (HS5.out.more (by omega))⟩
            case measure => simp [intOf]; omega
          · obtain ⟨ea, hA⟩ := add2 (HPX.out.below (Below.refl _ _).drew) HF.out s
            have HA := Lib.hid hA
            clear hA
            go_region_held3 (fun V => V.cell? ⟨wr.heap.size, 1, none⟩ = some (.string s) ∧ Hid (Kp (fun k => k < w.heap.size ∨ k = wr.heap.size) X1 V))
              (first
                | exact ⟨f1, HKX⟩
                | exact ⟨f1, Lib.hid (HKX.out.trans (Kp.of_below (Below.refl _ _).drew))⟩
                | exact ⟨(HC.out _ HKA.out).1, HKA⟩
                | exact ⟨(HC.out _ HRD.out.1).1, Lib.hid HRD.out.1⟩)
              (first
                | (go_at_call 14; refine (HTA.out 0).mono ?_; rintro e WB ⟨⟨_, rfl, rfl⟩, HPB⟩; have HRD := Lib.hid (HDN.out _ _ (by omega) HPB.out.1 ((Kp.of_below (Below.refl _ _).drew).trans HPB.out.2)))
                | (go_at_call 13; refine HA.out.mono ?_; rintro e WA ⟨rfl, HKA0, HTA⟩; have HKA := Lib.hid (HKG.out _ ((Kp.of_below (Below.refl _ _).drew).trans HKA0.out))))
            have hnb : ((ea : Int) == (ea : Int)) = true := by simp
            have hnb0 : ((0:Int) == (0:Int)) = true := by simp
            go_wp2_with fail
            refine ((HRD.out.2.shows (by omega) ix).1).mono ?_
            rintro e W3 ⟨rfl, HB3⟩
            have HK3 : Hid (Kp (fun k => k < w.heap.size ∨ k = wr.heap.size) X1 W3) := Lib.hid (HRD.out.1.trans (Kp.of_below HB3.out))
            have hx3 := (HC.out _ HK3.out).2
            have HS3 := Lib.hid (HRD.out.2.below HB3.out)
            go_wp2_with fail
            refine ((HS3.out.shows (by omega) nn).1).mono ?_
            rintro e W4 ⟨rfl, HB4⟩
            have HS4 := Lib.hid (HS3.out.below HB4.out)
            clear hx3
            go_wp2_with fail
            refine ((HS4.out.shows (by omega) ix).2).mono ?_
            rintro e W5 ⟨rfl, HB5⟩
            have HS5 := Lib.hid (HS4.out.below HB5.out)
            go_wp2_with fail
            go_roundw
            case rel => exact ⟨i + 1, v, v2, ov, ov2, by omega, rfl, rfl, rfl, rfl, by go_num, Lib.hid (HS5.out.more (by omega))⟩
            case measure => simp [intOf]; omega
          · obtain ⟨ea, hA⟩ := add2 (HPX.out.below (Below.refl _ _).drew) HF.out s
            have HA := Lib.hid hA
            clear hA
            go_region_held3 (fun V => V.cell? ⟨wr.heap.size, 1, none⟩ = some (.string s) ∧ Hid (Kp (fun k => k < w.heap.size ∨ k = wr.heap.size) X1 V))
              (first
                | exact ⟨f1, HKX⟩
                | exact ⟨f1, Lib.hid (HKX.out.trans (Kp.of_below (Below.refl _ _).drew))⟩
                | exact ⟨(HC.out _ HKA.out).1, HKA⟩
                | exact ⟨(HC.out _ HRD.out.1).1, Lib.hid HRD.out.1⟩)
              (first
                | (go_at_call 14; refine (HTA.out 0).mono ?_; rintro e WB ⟨⟨_, rfl, rfl⟩, HPB⟩; have HRD := Lib.hid (HDN.out _ _ (by omega) HPB.out.1 ((Kp.of_below (Below.refl _ _).drew).trans HPB.out.2)))
                | (go_at_call 13; refine HA.out.mono ?_; rintro e WA ⟨rfl, HKA0, HTA⟩; have HKA := Lib.hid (HKG.out _ ((Kp.of_below (Below.refl _ _).drew).trans HKA0.out))))
            have hnb : ((ea : Int) == (ea : Int)) = true := by simp
            have hnb0 : ((0:Int) == (0:Int)) = true := by simp
            go_wp2_with fail
            refine ((HRD.out.2.shows (by omega) ix).1).mono ?_
            rintro e W3 ⟨rfl, HB3⟩
            have HK3 : Hid (Kp (fun k => k < w.heap.size ∨ k = wr.heap.size) X1 W3) := Lib.hid (HRD.out.1.trans (Kp.of_below HB3.out))
            have hx3 := (HC.out _ HK3.out).2
            have HS3 := Lib.hid (HRD.out.2.below HB3.out)
            go_wp2_with fail
            refine ((HS3.out.shows (by omega) nn).1).mono ?_
            rintro e W4 ⟨rfl, HB4⟩
            have HS4 := Lib.hid (HS3.out.below HB4.out)
            clear hx3
            go_wp2_with fail
            refine ((HS4.out.shows (by omega) ix).2).mono ?_
            rintro e W5 ⟨rfl, HB5⟩
            have HS5 := Lib.hid (HS4.out.below HB5.out)
            go_wp2_with fail
            go_roundw
            case rel => exact ⟨i + 1, v, v2, ov, ov2, by omega, rfl, rfl, rfl, rfl, by go_num, Lib.hid (HS5.out.more (by omega))⟩
            case measure => simp [intOf]; omega
          · refine (mark2 HPX.out HF.out).mono ?_
            rintro e WA ⟨⟨_, rfl⟩, HKA0, HTA⟩
            go_wp2_with fail
            refine (HTA.out 0).mono ?_
            rintro e WB ⟨⟨_, rfl, -⟩, HPB⟩
            have HRD := Lib.hid (HDN.out _ _ (by omega) HPB.out.1 HPB.out.2)
            have hnb0 : ((0:Int) == (0:Int)) = true := by simp
            go_wp2_with fail
            refine ((HRD.out.2.shows (by omega) ix).1).mono ?_
            rintro e W3 ⟨rfl, HB3⟩
            have HK3 : Hid (Kp (fun k => k < w.heap.size ∨ k = wr.heap.size) X1 W3) := Lib.hid (HRD.out.1.trans (Kp.of_below HB3.out))
            have hx3 := (HC.out _ HK3.out).2
            have HS3 := Lib.hid (HRD.out.2.below HB3.out)
            go_wp2_with fail
            refine ((HS3.out.shows (by omega) nn).1).mono ?_
            rintro e W4 ⟨rfl, HB4⟩
            have HS4 := Lib.hid (HS3.out.below HB4.out)
            clear hx3
            go_wp2_with fail
            refine ((HS4.out.shows (by omega) ix).2).mono ?_
            rintro e W5 ⟨rfl, HB5⟩
            have HS5 := Lib.hid (HS4.out.below HB5.out)
            go_wp2_with fail
            go_roundw
            case rel => exact ⟨i + 1, v, v2, ov, ov2, by omega, rfl, rfl, rfl, rfl, by go_num, Lib.hid (HS5.out.more (by omega))⟩
            case measure => simp [intOf]; omega
          · obtain ⟨ea, hA⟩ := cut2 (HPX.out.below (Below.refl _ _).drew) HF.out nn
            have HA := Lib.hid hA
            clear hA
            go_region_held3 (fun V => V.cell? ⟨wr.heap.size, 2, none⟩ = some (.int .i64 nn) ∧ Hid (Kp (fun k => k < w.heap.size ∨ k = wr.heap.size) X1 V))
              (first
                | exact ⟨f2, HKX⟩
                | exact ⟨f2, Lib.hid (HKX.out.trans (Kp.of_below (Below.refl _ _).drew))⟩
                | exact ⟨(HC.out _ HKA.out).2, HKA⟩
                | exact ⟨(HC.out _ HRD.out.1).2, Lib.hid HRD.out.1⟩)
              (first
                | (go_at_call 18; refine (HTA.out 0).mono ?_; rintro e WB ⟨⟨_, rfl, rfl⟩, HPB⟩; have HRD := Lib.hid (HDN.out _ _ (by omega) HPB.out.1 ((Kp.of_below (Below.refl _ _).drew).trans HPB.out.2)))
                | (go_at_call 17; refine HA.out.mono ?_; rintro e WA ⟨rfl, HKA0, HTA⟩; have HKA := Lib.hid (HKG.out _ ((Kp.of_below (Below.refl _ _).drew).trans HKA0.out))))
            have hnb : ((ea : Int) == (ea : Int)) = true := by simp
            have hnb0 : ((0:Int) == (0:Int)) = true := by simp
            go_wp2_with fail
            refine ((HRD.out.2.shows (by omega) ix).1).mono ?_
            rintro e W3 ⟨rfl, HB3⟩
            have HK3 : Hid (Kp (fun k => k < w.heap.size ∨ k = wr.heap.size) X1 W3) := Lib.hid (HRD.out.1.trans (Kp.of_below HB3.out))
            have hx3 := (HC.out _ HK3.out).2
            have HS3 := Lib.hid (HRD.out.2.below HB3.out)
            go_wp2_with fail
            refine ((HS3.out.shows (by omega) nn).1).mono ?_
            rintro e W4 ⟨rfl, HB4⟩
            have HS4 := Lib.hid (HS3.out.below HB4.out)
            clear hx3
            go_wp2_with fail
            refine ((HS4.out.shows (by omega) ix).2).mono ?_
            rintro e W5 ⟨rfl, HB5⟩
            have HS5 := Lib.hid (HS4.out.below HB5.out)
            go_wp2_with fail
            go_roundw
            case rel => exact ⟨i + 1, v, v2, ov, ov2, by omega, rfl, rfl, rfl, rfl, by go_num, Lib.hid (HS5.out.more (by omega))⟩
            case measure => simp [intOf]; omega
          · refine (clear2 HPX.out HF.out).mono ?_
            rintro e WA ⟨⟨_, rfl⟩, HKA0, HTA⟩
            go_wp2_with fail
            refine (HTA.out 0).mono ?_
            rintro e WB ⟨⟨_, rfl, -⟩, HPB⟩
            have HRD := Lib.hid (HDN.out _ _ (by omega) HPB.out.1 HPB.out.2)
            have hnb0 : ((0:Int) == (0:Int)) = true := by simp
            go_wp2_with fail
            refine ((HRD.out.2.shows (by omega) ix).1).mono ?_
            rintro e W3 ⟨rfl, HB3⟩
            have HK3 : Hid (Kp (fun k => k < w.heap.size ∨ k = wr.heap.size) X1 W3) := Lib.hid (HRD.out.1.trans (Kp.of_below HB3.out))
            have hx3 := (HC.out _ HK3.out).2
            have HS3 := Lib.hid (HRD.out.2.below HB3.out)
            go_wp2_with fail
            refine ((HS3.out.shows (by omega) nn).1).mono ?_
            rintro e W4 ⟨rfl, HB4⟩
            have HS4 := Lib.hid (HS3.out.below HB4.out)
            clear hx3
            go_wp2_with fail
            refine ((HS4.out.shows (by omega) ix).2).mono ?_
            rintro e W5 ⟨rfl, HB5⟩
            have HS5 := Lib.hid (HS4.out.below HB5.out)
            go_wp2_with fail
            go_roundw
            case rel => exact ⟨i + 1, v, v2, ov, ov2, by omega, rfl, rfl, rfl, rfl, by go_num, Lib.hid (HS5.out.more (by omega))⟩
            case measure => simp [intOf]; omega
          · refine (copy2 HPX.out).mono ?_
            rintro e WA ⟨u, rfl, HKA0, HTA⟩
            go_wp2_with fail
            refine (HTA.out 0).mono ?_
            rintro e WB ⟨u2, rfl, HPB⟩
            have HRD := Lib.hid (HCP.out _ _ _ HPB.out.1 HPB.out.2)
            have hnb0 : ((0:Int) == (0:Int)) = true := by simp
            go_wp2_with fail
            refine ((HRD.out.2.shows (by omega) ix).1).mono ?_
            rintro e W3 ⟨rfl, HB3⟩
            have HK3 : Hid (Kp (fun k => k < w.heap.size ∨ k = wr.heap.size) X1 W3) := Lib.hid (HRD.out.1.trans (Kp.of_below HB3.out))
            have hx3 := (HC.out _ HK3.out).2
            have HS3 := Lib.hid (HRD.out.2.below HB3.out)
            go_wp2_with fail
            refine ((HS3.out.shows (by omega) nn).1).mono ?_
            rintro e W4 ⟨rfl, HB4⟩
            have HS4 := Lib.hid (HS3.out.below HB4.out)
            clear hx3
            go_wp2_with fail
            refine ((HS4.out.shows (by omega) ix).2).mono ?_
            rintro e W5 ⟨rfl, HB5⟩
            have HS5 := Lib.hid (HS4.out.below HB5.out)
            go_wp2_with fail
            go_roundw
            case rel => exact ⟨i + 1, u, u2, v, v2, by omega, rfl, rfl, rfl, rfl, by go_num, Lib.hid (HS5.out.more (by omega))⟩
            case measure => simp [intOf]; omega
      · obtain rfl : i = len := by omega
        have HS := HT
        go_wp2_with fail
        refine ((HT.out.shows (by omega) ix).1).mono ?_
        rintro e V1 ⟨rfl, HB1⟩
        go_wp2_with fail
        refine (HW.out _).mono ?_
        rintro e V3 ⟨rfl, hb9⟩
        have HLOW : Hid (Below w.heap.size w wr) := Lib.hid (by obtain ⟨S, h1, h2, h3, -, -⟩ := HT.out; exact h3)
        go_wp2_with fail
        go_ret
        exact ⟨rfl, HLOW.out.trans ((HB1.out.trans (hb9.mono HB1.out.size)).mono HLOW.out.size)⟩
end Go.Proofs.Ytahccgbmbnmcgaa
