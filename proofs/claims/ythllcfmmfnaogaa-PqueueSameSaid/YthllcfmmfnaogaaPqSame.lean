/- PqueueSame: the walk. -/
import Derived.Test.YthllcfmmfnaogaaPqTwo
import Derived.Test.YthllcfmmfnaogaaPqApart
namespace Go.Proofs.Ythllcfmmfnaogaa
open Go Go.RowKit

/-- What stands while the other queue is filled. -/
structure Same1 (w1 wr : World) (n first i : Nat) (m : Nat → Option Nat) : Prop where
  r : QHS wr (w1.heap.size + 1) w1.heap.size n (lm (mrs m n first i))
  low : Below w1.heap.size w1 wr

/-- What stands while both are emptied. -/
def Same2 (w wr : World) (b br n : Nat) : Prop := ∃ p pr mm, Two w wr b b br n p pr mm mm

set_option maxHeartbeats 6400000 in
set_option maxRecDepth 100000 in
theorem same_any (size : Nat) (hsz : size ≤ 255) (a : Option Addr) (len cap : Nat) (xs : List (Bool × Nat × Nat)) (hlen : xs.length = len) (hc63 : len ≤ 9223372036854775807) (first : Nat) (hfi : first ≤ 255) (w : World) (hX : TurnsAt w w.heap.size a xs) :
    Calls Try.prog 11 #[.int .u8 (size : Nat), .slice a len cap, .int .u8 (first : Nat)] w fun e w' => e = .returned (.bool true) ∧ Below w.heap.size w w' := by
  have hmade := made_any size hsz a len cap xs hlen hc63 w hX
  have HW := Lib.hid works4_any
  clear hX hlen
  by_cases h150 : 150 < len
  · have hd : decide ((150 : Int) < (len : Int)) = true := decide_eq_true (by omega)
    clear hmade
    go_enter Try.func11, Try.ntmps11
    go_wp2_with fail
    refine (HW.out w).mono ?_
    rintro e w1 ⟨rfl, hb⟩
    go_wp2_with fail
    go_ret
    exact ⟨rfl, hb⟩
  · have hd : decide ((150 : Int) < (len : Int)) = false := decide_eq_false (by omega)
    generalize hn : 1 + size % 50 = n at *
    have HN := Lib.hid hn
    have hn1 : 1 ≤ n := by omega
    have hn50 : n ≤ 50 := by omega
    have HNEW := Lib.hid (newS n hn1 (by omega))
    clear hn h150
    go_enter Try.func11, Try.ntmps11
    go_wp2_with fail
    refine hmade.mono ?_
    rintro e w1 ⟨rfl, m, hM⟩
    have HM := Lib.hid hM
    clear hM hmade
    go_wp2_with fail
    refine (HNEW.out w1).mono ?_
    rintro e w2 ⟨rfl, hq, hb, hs⟩
    have HS : Hid (Same1 w1 w2 n first 0 m) := Lib.hid ⟨⟨by omega, by omega, none, hq, fun a h => by cases h⟩, hb⟩
    clear hq hb hs HNEW
    go_wp2_with fail
    go_loopw [11] (fun s wr => ∃ i : Nat, i ≤ n ∧ s = .int .i64 i ∧ Hid (Same1 w1 wr n first i m)) (fun s _ => n - (intOf s).toNat)
    case atStart => exact ⟨0, by omega, rfl, HS⟩
    case round =>
      obtain ⟨i, hi, rfl, HR⟩ := hrel
      clear HS
      by_cases hlt : i < n
      · obtain ⟨k, hk⟩ : ∃ k, k = (i + first) % n := ⟨_, rfl⟩
        have hkn : k < n := by rw [hk]; exact Nat.mod_lt _ (by omega)
        have hkI : ((i : Int) + (first : Int)) % (n : Int) = (k : Int) := by rw [hk]; push_cast; rfl
        have hfr : mrs m n first i k = none := by rw [hk]; exact mrs_fresh m hlt
        have hnext : mrs m n first (i + 1) = mSet (mrs m n first i) k (m k) := by rw [hk]; rfl
        have hwc := (HM.out.below HR.out.low).want.cell hkn
        cases hmk : m k with
        | none =>
          have HN1 : Hid (Same1 w1 wr n first (i + 1) m) := Lib.hid (by
            refine ⟨?_, HR.out.low⟩
            rw [hnext, hmk, mSet_same hfr]
            exact HR.out.r)
          rw [hmk] at hwc
          simp only [wv] at hwc
          have hdn : decide ((0 : Int) ≤ -1) = false := rfl
          clear hk hfr hnext hmk HR
          go_wp2_with fail
          go_roundw
          case rel => exact ⟨i + 1, by omega, by go_num, HN1⟩
          case measure => simp [intOf]; omega
        | some u =>
          have hu := HM.out.small k u hmk
          have hwu : IntKind.u8.wrap (u : Int) = (u : Int) := wrap_u8 hu
          have hu0 : (0 : Int) ≤ (u : Int) := by omega
          have HLU := Lib.hid (letter_any u hu)
          have HP : Hid (∀ W, Below wr.heap.size wr W → Calls Try.prog 75 #[.pointer (some ⟨w1.heap.size, 0, none⟩), .int .i64 (k : Nat), .string (ltr u)] W fun e W1 => e = .returned (.int .i64 0) ∧ Hid (Same1 w1 W1 n first (i + 1) m)) := Lib.hid fun W hb => by
            refine (pushHS (HR.out.r.below hb) hkn (lm_none hfr) (ltr u)).mono ?_
            rintro e W1 ⟨he, h1, h2⟩
            refine ⟨he, Lib.hid ⟨?_, (HR.out.low.trans (hb.mono (by have := HR.out.r.2.1; omega))).trans ?_⟩⟩
            · rw [hnext, hmk, lm_set]; exact h1
            · have := h2.below; rwa [Nat.min_eq_left (by omega)] at this
          rw [hmk] at hwc
          have hwc' : wr.cell? ⟨w.heap.size + 1, k, none⟩ = some (.int .i64 (u : Nat)) := hwc
          clear hk hfr hnext hmk HR hwc
          go_wp2_with fail
          refine (HLU.out wr).mono ?_
          rintro e W2 ⟨rfl, hb⟩
          go_wp2_with fail
          refine (HP.out W2 hb).mono ?_
          rintro e W3 ⟨rfl, HN1⟩
          clear HP hb
          go_wp2_with fail
          go_roundw
          case rel => exact ⟨i + 1, by omega, by go_num, HN1⟩
          case measure => simp [intOf]; omega
      · obtain rfl : i = n := by omega
        have HT : Hid (Same2 w wr w.heap.size w1.heap.size i) := Lib.hid (by
          have hMz := HM.out.below HR.out.low
          obtain ⟨h1, h2, p, h30, h4⟩ := HM.out.q
          have h3 := h30.below HR.out.low
          obtain ⟨k1, k2, pr, k3, k4⟩ := HR.out.r
          have hbw := HM.out.q.2.1
          have hpl : ∀ a, p = some a → a.block < w1.heap.size := fun a ha => (h30.own ha).2.1
          rw [mrs_all (by omega) (fun k hk => by
            have := HM.out.q.low hk
            cases h : m k with
            | none => rfl
            | some v => simp [lm, h] at this)] at k3
          refine ⟨p, pr, lm m, h3, k3, by omega, fun a ha => by have := hpl a ha; omega, fun a ha => by have := k4 a ha; omega, fun a a' ha ha' => by have := hpl a ha; have := k4 a' ha'; omega, Nat.le_refl _, by omega, fun a ha => by have := h4 a ha; omega, fun a ha => by have := k4 a ha; omega, hMz.low⟩)
        clear HR hlt hi
        obtain ⟨wA, hwA⟩ : ∃ wA, wA = wr := ⟨_, rfl⟩
        subst hwA
        go_wp2_with fail
        go_loopw [] (fun wr => Hid (Same2 w wr w.heap.size w1.heap.size i)) (fun wr => lenOf wr w.heap.size)
        case atStart => exact HT
        case round =>
          obtain ⟨p, pr, mm, hT⟩ := hrel.out
          have hln := lenS hT.q
          by_cases hz : 0 < cntQ i mm
          · obtain ⟨⟨xi, xp⟩, hx⟩ : ∃ x, FstS mm x := by
              rcases hT.q.fst with h | h
              · exact h
              · rw [cntQ_zero h] at hz; omega
            have hxs : xi < i := by
              rcases Nat.lt_or_ge xi i with h | h
              · exact h
              · have := hT.q.low h; have h2 := hx.1; rw [this] at h2; cases h2
            have hmeas : cntQ i (mSet mm xi none) < lenOf wr w.heap.size := by
              rw [hT.q.lenOf]
              have := cntQ_pop mm xi hx.1 i hxs
              omega
            have HP1 : Hid (Calls Try.prog 72 #[.pointer (some ⟨w.heap.size, 0, none⟩)] wr fun e W1 => e = .returned (.tuple #[.int .i64 (xi : Nat), .string xp, .bool true]) ∧ Two w W1 w.heap.size w.heap.size w1.heap.size i p pr (mSet mm xi none) mm) := Lib.hid (by
              refine (popS hT.q hx).mono ?_
              rintro e W1 ⟨he, h1, h2⟩
              exact ⟨he, hT.left h1 h2⟩)
            have HP2 : Hid (∀ W, Two w W w.heap.size w.heap.size w1.heap.size i p pr (mSet mm xi none) mm → Calls Try.prog 72 #[.pointer (some ⟨w1.heap.size, 0, none⟩)] W fun e W1 => e = .returned (.tuple #[.int .i64 (xi : Nat), .string xp, .bool true]) ∧ Two w W1 w.heap.size w.heap.size w1.heap.size i p pr (mSet mm xi none) (mSet mm xi none)) := Lib.hid fun W h => by
              refine (popS h.r hx).mono ?_
              rintro e W1 ⟨he, h1, h2⟩
              exact ⟨he, h.right h1 h2⟩
            have hxx : (xp.toList == xp.toList) = true := beq_self_eq_true _
            have HME := Lib.hid hmeas
            have hz1 : decide ((0 : Int) < (cntQ i mm : Int)) = true := decide_eq_true (by omega)
            generalize cntQ i mm = cc at *
            clear hT hx hmeas hxs hrel HT
            go_wp2_with fail
            refine hln.mono ?_
            rintro e V1 ⟨rfl, rfl⟩
            go_wp2_with fail
            refine HP1.out.mono ?_
            rintro e V2 ⟨rfl, hT2⟩
            have HT2 := Lib.hid hT2
            clear hT2 HP1 hln
            go_wp2_with fail
            refine (HP2.out V2 HT2.out).mono ?_
            rintro e V3 ⟨rfl, hT3⟩
            have HT3 : Hid (Same2 w V3 w.heap.size w1.heap.size i) := Lib.hid ⟨p, pr, _, hT3⟩
            have HM3 : Hid (lenOf V3 w.heap.size < lenOf V1 w.heap.size) := Lib.hid (by rw [hT3.q.lenOf]; exact HME.out)
            clear hT3 HP2 HT2
            go_wp2_with fail
            go_roundw
            case rel => exact HT3
            case measure => exact HM3.out
          · have hz0 : cntQ i mm = 0 := by omega
            have hlr := lenS hT.r
            rw [hz0] at hln hlr
            have HL := Lib.hid (And.intro hln hlr)
            have HLow := Lib.hid hT.low
            clear hln hlr hT hz hz0 hrel HT
            go_wp2_with fail
            refine HL.out.1.mono ?_
            rintro e V1 ⟨rfl, rfl⟩
            go_wp2_with fail
            refine HL.out.2.mono ?_
            rintro e V2 ⟨rfl, rfl⟩
            go_wp2_with fail
            refine (HW.out _).mono ?_
            rintro e V3 ⟨rfl, hb9⟩
            go_wp2_with fail
            go_ret
            exact ⟨rfl, HLow.out.trans (hb9.mono HLow.out.size)⟩
end Go.Proofs.Ythllcfmmfnaogaa
