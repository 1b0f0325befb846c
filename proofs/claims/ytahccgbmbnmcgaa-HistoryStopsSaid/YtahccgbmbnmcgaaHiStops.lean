/- HistoryStops, the walk. -/
import Derived.Test.YtahccgbmbnmcgaaHiTri
import Derived.Test.YtahccgbmbnmcgaaHiGat
import Derived.Test.YtahccgbmbnmcgaaHiRangeB
import Derived.Deep.RegionWith
import Derived.StillTailTactics
import Derived.Deep.RegionHeld3
import Derived.Test.YtahccgbmbnmcgaaHiSinceI
import Derived.Test.YtahccgbmbnmcgaaHiWorks
namespace Go.Proofs.Ytahccgbmbnmcgaa
open Go Go.RowKit

attribute [local go_sem] Oper.semAt_some

/-- What stands while a round's loop goes on: the counter in its box, all else of Y. -/
structure StI (Y W : World) (G k : Nat) : Prop where
  box : Boxed W G 3 (.int .i64 (k : Nat))
  low : Below G Y W

section
variable {Y W C : World} {G k : Nat}
theorem StI.step (h : StI Y W G k) (hY : Y.heap.size = G + 1) {hi : Nat} (hs : OwnStep Y.heap.size hi W C) : StI Y C G k :=
  ⟨boxed_step h.box (by omega) hs, h.low.trans ⟨hs.os, hs.tape, hs.output, hs.size, fun j hj => hs.block j (by have := h.low.size; omega) (.inl (by omega))⟩⟩
theorem StI.start (hb : Boxed Y G 3 (.int .i64 0)) (hY : Y.heap.size = G + 1) (hA : Below Y.heap.size Y W) : StI Y W G 0 := ⟨(hA.block G hb.lt).trans hb, hA.mono (by omega)⟩
theorem StI.more (h : StI Y W G k) (hY : Y.heap.size = G + 1) {hi : Nat} (hh : Y.heap.size + 2 ≤ hi) {v : Int} :
    KeepsIn Y.heap.size hi W (W.setCell ⟨G, 0, none⟩ (.int .i64 v)) ∧ Boxed (W.setCell ⟨G, 0, none⟩ (.int .i64 v)) G 3 (.int .i64 v) ∧ Below G Y (W.setCell ⟨G, 0, none⟩ (.int .i64 v)) :=
  ⟨KeepsIn.of_grownBy (grownBy_setCell' W G _) (fun r e => by cases e; left; omega), h.box.set _, h.low.grown (grownBy_setCell' W G _) (Nat.le_trans (by omega) h.low.size) (fun r e => by cases e; omega)⟩
end

set_option maxHeartbeats 8000000 in
set_option maxRecDepth 100000 in
theorem stops_in (lim : Nat) (hlim : lim ≤ 255) (a : Option Addr) (len cap : Nat) (xs : List (Nat × Nat)) (hlen : xs.length = len) (hcap : len ≤ cap) (hc63 : cap ≤ 9223372036854775807) (st : Nat) (hst : st ≤ 255) (far : Nat) (hfar : far ≤ 65535) (w : World) (hX : MovesAt w w.heap.size a xs) :
    CallsIn Fence.wide 12 Try.prog 7 #[.int .u8 (lim : Nat), .slice a len cap, .int .u8 (st : Nat), .int .u16 (far : Nat)] w fun e w' => e = .returned (.bool true) ∧ Below w.heap.size w w' := by
  obtain ⟨most, hmost⟩ : ∃ most, most = 1 + lim % 64 := ⟨_, rfl⟩
  have hm1 : most ≤ 64 := by omega
  obtain ⟨r, hr⟩ : ∃ r, r = lim % 64 := ⟨_, rfl⟩
  have hr2 : (lim : Int) % 64 = (r : Int) := by omega
  have hm2 : (1 : Int) + (r : Int) = (most : Int) := by omega
  have hr3 : r ≤ 63 := by omega
  clear hr hmost
  obtain ⟨n, hn⟩ : ∃ n, n = min len 150 := ⟨_, rfl⟩
  have hnl : n ≤ len := by omega
  have hn150 : n ≤ 150 := by omega
  have hmin : min (len : Int) 150 = (n : Int) := by omega
  have hncap : n ≤ cap := by omega
  have hn0 : (0 : Int) ≤ (n : Int) := by omega
  have hmax : max (n : Int) 0 = (n : Int) := by omega
  have HX := Lib.hid (And.intro hX hlen)
  have HW : Hid (∀ W, Calls Try.prog 10 #[] W fun e w' => e = .returned (.bool true) ∧ Below W.heap.size W w') := Lib.hid works7_any
  clear hX hlen hn
  obtain ⟨W0, hW0⟩ : ∃ W0, W0 = (w.alloc (.cells #[.int .u8 (st : Nat)] 5)).alloc (.cells #[.bool false] 4) := ⟨_, rfl⟩
  have hs0 : W0.heap.size = w.heap.size + 2 := by rw [hW0]; simp
  have hb0 : Below w.heap.size w W0 := by rw [hW0]; exact ((Below.refl _ _).alloc (Nat.le_refl _) _).alloc (by simp) _
  have bR : Boxed W0 (w.heap.size + 1) 4 (.bool false) := by rw [hW0]; exact boxed_at4 (by simp) _ _
  have bM : Boxed W0 w.heap.size 5 (.int .u8 (st : Nat)) := by rw [hW0]; exact (boxed_at4 rfl _ _).alloc _
  obtain ⟨B, hB⟩ : ∃ B, B = W0.heap.size := ⟨_, rfl⟩
  have hnew := newI most (by omega) W0
  rw [← hB] at hnew
  have hBS : B = w.heap.size + 2 := by omega
  have H0 := Lib.hid (And.intro hb0 (And.intro bR (And.intro bM hB)))
  clear hs0 hb0 bR bM hB
  refine callsIn_of_wp_marks Try.func7 rfl trivial ?_ rfl
  simp only [Try.ntmps7, List.size_toArray, List.length_nil, List.length_cons, Nat.reduceAdd, Nat.reduceSub, Array.replicate_succ, Array.replicate_zero, List.push_toArray, List.append_toArray, List.nil_append, List.cons_append]
  have HBS := Lib.hid hBS
  clear hBS
  gi_wp2_with fail
  rw [← hW0]
  clear hW0
  gi_wp2_with fail
  refine ⟨trivial, (callsIn_wide.2 hnew).mono ?_⟩
  rintro e w1 ⟨rfl, hL0, hb1, hs1⟩
  have HO : Hid (One W0 w1 B B most 0 [] none) := Lib.hid ⟨⟨0, hL0⟩, by rw [H0.out.2.2.2]; rw [H0.out.2.2.2] at hb1; exact hb1, Nat.le_refl _, (fun a h => by cases h), by rw [H0.out.2.2.2]; exact Nat.le_refl _⟩
  clear hnew hL0 hb1 hs1
  gi_wp2_with fail
  gi_loopw [44] (fun sc wr => ∃ (i : Nat), i ≤ n ∧ sc = .int .i64 i ∧ Hid (∃ (m : Nat) (l : List Int) (p : Option Addr), One W0 wr B B most m l p)) (fun sc _ => n - (intOf sc).toNat)
  case atStart => exact ⟨0, Nat.zero_le _, rfl, Lib.hid ⟨0, [], none, HO.out⟩⟩
  case round =>
    obtain ⟨i, hi, rfl, HT⟩ := hrel
    clear HO
    obtain ⟨m, l, p, hT⟩ := HT.out
    by_cases hlt : i < n
    · obtain ⟨⟨k, v⟩, hx⟩ : ∃ x, xs[i]? = some x := ⟨_, List.getElem?_eq_getElem (by rw [HX.out.2]; omega)⟩
      obtain ⟨⟨g, o, rfl, hg, e0, e1⟩, hk, hv⟩ := HX.out.1 i _ hx
      dsimp only at e0 e1 hk hv
      have hgB : g < B := by have := HBS.out; omega
      have e0' := (hT.low.cell (p := ⟨g, o + i * 2, none⟩) hgB).trans ((H0.out.1.cell (p := ⟨g, o + i * 2, none⟩) hg).trans e0)
      have e1' := (hT.low.cell (p := ⟨g, o + i * 2 + 1, none⟩) hgB).trans ((H0.out.1.cell (p := ⟨g, o + i * 2 + 1, none⟩) hg).trans e1)
      have hmv := (hT.below ((Below.refl _ _).alloc (Nat.le_refl _) (.cells #[.int .u8 k, .int .u16 v] 51))).moved k v hv
      have hi0 : (0 : Int) ≤ (i : Int) := by omega
      have hi1 : (i : Int) < (n : Int) := by omega
      clear e0 e1 hx hT HT
      gi_wp2_with fail
      refine ⟨trivial, (callsIn_wide.2 hmv).mono ?_⟩
      rintro e W2 ⟨rfl, p', m', l', hO2, -, -, -⟩
      have HN : Hid (∃ (m : Nat) (l : List Int) (p : Option Addr), One W0 W2 B B most m l p) := Lib.hid ⟨_, _, _, hO2⟩
      clear hmv hO2 e0' e1'
      gi_wp2_with fail
      go_roundw
      case rel => exact ⟨i + 1, by omega, by go_num, HN⟩
      case measure => simp [intOf]; omega
    · obtain rfl : i = n := by omega
      have hel := hT.elements
      have hll : l.length ≤ most := hT.ll
      have hml : m ≤ l.length := hT.ml
      have HT1 := Lib.hid hT
      clear HT hT
      gi_wp2_with fail
      refine ⟨trivial, (callsIn_wide.2 hel).mono ?_⟩
      rintro e V1 ⟨qa, ca, rfl, hca, HA1, HA2, HA3, hqa0, hqa⟩
      have hmk1 := HA1.out.marked0
      have hqB : ∀ a, qa = some a → a.block < V1.heap.size := fun a ha => (hqa a ha).2.1
      have HQA := Lib.hid hqB
      clear hel hqa hqa0 hqB HT1
      obtain ⟨K1, hK1⟩ : ∃ K1, K1 = V1.heap.size := ⟨_, rfl⟩
      have hmkA := fun o => (HA1.out.below ((Below.refl _ _).alloc (Nat.le_refl _) o)).marked0
      gi_wp2_with fail
      refine ⟨trivial, (callsIn_wide.2 (hmkA _)).mono ?_⟩
      rintro e V2 ⟨rfl, rfl⟩
      gi_wp2_with fail
      refine ⟨trivial, (callsIn_wide.2 (sinceMakeI _ _)).mono ?_⟩
      rintro e V3 ⟨rfl, rfl⟩
      gi_wp2_with fail
      obtain ⟨X, hX⟩ : ∃ X, X = ((V1.alloc (.cells #[.slice qa l.length ca] 48)).alloc (.cells #[.int .i64 (m : Nat)] 3)).alloc (.cells #[.pointer (some ⟨B, 0, none⟩)] 45) := ⟨_, rfl⟩
      have hXs : X.heap.size = K1 + 3 := by rw [hX, hK1]; simp
      have hXb : Below K1 V1 X := by rw [hX, hK1]; exact (((Below.refl _ _).alloc (Nat.le_refl _) _).alloc (by simp) _).alloc (by simp; omega) _
      have bB : Boxed X K1 48 (.slice qa l.length ca) := by rw [hX]; exact ((boxed_at4 hK1.symm _ _).alloc _).alloc _
      have bK : Boxed X (K1 + 1) 3 (.int .i64 (m : Nat)) := by rw [hX]; exact (boxed_at4 (by simp [hK1]) _ _).alloc _
      have bA : Boxed X (K1 + 1 + 1) 45 (.pointer (some ⟨B, 0, none⟩)) := by rw [hX]; exact boxed_at4 (by simp [hK1]) _ _
      have hTX : One W0 X B B most m l p := HA1.out.below (by rw [← hK1]; exact hXb)
      have hRX : RdI X qa l := HA2.out.below (by rw [← hK1]; exact hXb)
      have hBK : B < K1 := by rw [hK1]; exact HA1.out.lt
      have hpK : ∀ a, p = some a → a.block < K1 := fun a ha => by rw [hK1]; exact HA1.out.plt a ha
      have hqK : ∀ a, qa = some a → a.block < K1 := fun a ha => by rw [hK1]; exact HQA.out a ha
      have hBS := HBS.out
      have bSt : Boxed X w.heap.size 5 (.int .u8 (st : Nat)) := (hTX.low.block _ (by omega)).trans H0.out.2.2.1
      have bRs : Boxed X (w.heap.size + 1) 4 (.bool false) := (hTX.low.block _ (by omega)).trans H0.out.2.1
      rw [← hX, ← hK1]
      obtain ⟨L, hL⟩ : ∃ L, L = l.length := ⟨_, rfl⟩
      have HLL : Hid (l.length = L) := Lib.hid hL.symm
      rw [← hL] at hca hml bB ⊢
      have hLm : L ≤ 64 := by have := hll; omega
      have HST : Hid (∀ V, Below (K1 + 3) X V → One W0 V B B most m l p ∧ RdI V qa l ∧ Boxed V w.heap.size 5 (.int .u8 (st : Nat)) ∧ Boxed V (w.heap.size + 1) 4 (.bool false) ∧ Boxed V K1 48 (.slice qa L ca) ∧ Boxed V (K1 + 1) 3 (.int .i64 (m : Nat)) ∧ Boxed V (K1 + 1 + 1) 45 (.pointer (some ⟨B, 0, none⟩))) := Lib.hid fun V hb => by
        have hb' : Below X.heap.size X V := by rw [hXs]; exact hb
        exact ⟨hTX.below hb', hRX.below hb', (hb.block _ (by omega)).trans bSt, (hb.block _ (by omega)).trans bRs, (hb.block _ (by omega)).trans bB, (hb.block _ (by omega)).trans bK, (hb.block _ (by omega)).trans bA⟩
      obtain ⟨cc, hLX⟩ := hTX.list
      have HLK : Hid (∀ V, Below (K1 + 3) X V → HLI V B p cc most m l) := Lib.hid fun V hb => hLX.below (by rw [hXs]; exact hb)
      have HW1 : Hid (w.heap.size + 1 < B ∧ B < K1) := Lib.hid ⟨by omega, hBK⟩
      have HX0 : Hid (Below (K1 + 3) X X ∧ X.heap.size = K1 + 3) := Lib.hid ⟨Below.refl _ _, hXs⟩
      clear hX hXb bB bK bA hTX hRX hLX hBK hBS bSt bRs hXs HA1 HA2 HA3 HQA hmkA hK1 hL hll
      obtain ⟨ys, hys⟩ : ∃ ys, ys = l.drop m := ⟨_, rfl⟩
      have HYS := Lib.hid hys
      clear hys
      refine wpIn_loop_rounds 3 ?_
      rw [roundsIn_succ]
      obtain ⟨-, -, -, -, -, -, cl1⟩ := HST.out X HX0.out.1
      gi_wp2_with fail
      obtain ⟨G1, hG1⟩ : ∃ G, G = X.heap.size := ⟨_, rfl⟩
      obtain ⟨Y1, hY1⟩ : ∃ Y, Y = X.alloc (.cells #[.int .i64 0] 3) := ⟨_, rfl⟩
      have hYs1 : Y1.heap.size = G1 + 1 := by rw [hY1, hG1]; simp
      have hYb1 : Below G1 X Y1 := by rw [hY1, hG1]; exact (Below.refl _ _).alloc (Nat.le_refl _) _
      have bN1 : Boxed Y1 G1 3 (.int .i64 0) := by rw [hY1]; exact boxed_at4 hG1.symm _ _
      have hKG1 : K1 + 3 ≤ G1 := by rw [hG1, ← HX0.out.2]; exact HX0.out.1.size
      have hXY1 : Below (K1 + 3) X Y1 := HX0.out.1.trans (hYb1.mono hKG1)
      obtain ⟨-, -, -, -, -, -, g71⟩ := HST.out Y1 hXY1
      have hLY1 := HLK.out Y1 hXY1
      have hseq1 := sinceSeqI 11 (by omega) (K1 + 1 + 1) Y1 g71.cell hLY1
      rw [HLL.out, ← HYS.out] at hseq1
      rw [← hY1, ← hG1]
      have HY1 := Lib.hid (And.intro hXY1 (And.intro hKG1 hYs1))
      clear hY1 hG1 g71 hLY1 cl1
      refine rangeIdxB (encs := encEI ys) (fun i T => (T.setIfInBounds 67 (.int .i64 (ys.getD i 0))).setIfInBounds 19 (.int .i64 (ys.getD i 0))) 4 rfl (by omega) (gf := 59) (lb := #[.pointer (some ⟨K1 + 1 + 1, 0, none⟩)]) rfl trivial (enters_of Try.func59 (by kernel_rfl) rfl)
        hseq1 (Below.refl _ _) (fun _ => rfl) (fun hi k A => StI Y1 A G1 k ∧ k ≤ st) (fun hi k A => StI Y1 A G1 k ∧ k = st + 1)
        (fun hi s A C h _ hs => ⟨h.1.step hYs1 hs, h.2⟩) (fun hi s A C h _ hs => ⟨h.1.step hYs1 hs, h.2⟩)
        (fun hi s A h => HLK.out A (HY1.out.1.trans (h.1.low.mono HY1.out.2.1)))
        (fun A hA hs => ⟨StI.start bN1 hYs1 hA, Nat.zero_le _⟩) ?assign1 ?body1
        (fun W => StI Y1 W G1 (min (L - m) (st + 1))) ?done1 ?stop1 ?q1 ?rest1
      case assign1 =>
        intro lr' x W' K hK
        unfold encEI
        gi_wp2
        exact hK
      case done1 =>
        rintro hi W hh ⟨h1, h2⟩
        rw [Nat.min_eq_left (by omega)]
        exact h1
      case stop1 =>
        rintro hi k W hh hk ⟨h1, h2⟩
        rw [h2] at h1 hk
        rw [Nat.min_eq_right (by omega)]
        exact h1
      case q1 => exact fun a W hq => hq
      case body1 =>
        rintro lr' hi x W' hhi ⟨hI, hle⟩ hlt
        have hb := HY1.out.1.trans (hI.low.mono HY1.out.2.1)
        obtain ⟨q1, q2, q3, q4, q5, q6, q7⟩ := HST.out W' hb
        have c3 := q3.cell
        have c5 := q5.cell
        have c6 := q6.cell
        have cN := hI.box.cell
        have fN := hI.box.frozen
        have hne3 : w.heap.size ≠ G1 := by have := HW1.out; have := HY1.out.2.1; omega
        have c3s := fun v => (q3.other hne3 v).cell
        have cNs := fun v => (hI.box.set v).cell
        have hdr : l[m + x]? = some (ys.getD x 0) := by
          have hlx : m + x < l.length := by rw [HLL.out]; omega
          rw [HYS.out, List.getD_eq_getElem?_getD, List.getElem?_drop, List.getElem?_eq_getElem hlx]; rfl
        obtain ⟨g, o, hqa, hc⟩ := q2 _ _ hdr
        obtain ⟨u, hu⟩ : ∃ u, u = ys.getD x 0 := ⟨_, rfl⟩
        rw [← hu] at hc ⊢
        have hco : W'.cell? ⟨g, o + (m + x), none⟩ = some (.int .i64 u) := hc
        simp only [List.setIfInBounds_toArray, List.set_cons_succ, List.set_cons_zero]
        have hi0 : ¬ (m : Int) + (x : Int) < 0 := by omega
        have hi1 : ¬ (L : Int) ≤ (m : Int) + (x : Int) := by omega
        have hi2 : (0 : Int) ≤ (m : Int) + (x : Int) := by omega
        have hi3 : (m : Int) + (x : Int) < (L : Int) := by omega
        have htn : ((m : Int) + (x : Int)).toNat = m + x := by omega
        have hF := hI.more (v := (x : Int) + 1) hYs1 hhi
        have hx1 : ((x + 1 : Nat) : Int) = (x : Int) + 1 := by omega
        subst hqa
        by_cases hbr : x + 1 ≤ st
        · have hg9 : ¬ (st : Int) < (x : Int) + 1 := by omega
          have HF : Hid (KeepsIn Y1.heap.size hi W' (W'.setCell ⟨G1, 0, none⟩ (.int .i64 ((x : Int) + 1))) ∧ StI Y1 (W'.setCell ⟨G1, 0, none⟩ (.int .i64 ((x : Int) + 1))) G1 (x + 1) ∧ x + 1 ≤ st) := Lib.hid ⟨hF.1, ⟨by rw [hx1]; exact hF.2.1, hF.2.2⟩, hbr⟩
          clear hI hF q1 q2 q3 q4 q5 q6 q7 hu hdr hc hb
          gi_wp2_with fail
          exact ⟨by rw [← hYs1]; exact HF.out.1, HF.out.2.1⟩
        · have hg9 : (st : Int) < (x : Int) + 1 := by omega
          have HF : Hid (KeepsIn Y1.heap.size hi W' (W'.setCell ⟨G1, 0, none⟩ (.int .i64 ((x : Int) + 1))) ∧ Code.exit 4 = Code.exit 4 ∧ StI Y1 (W'.setCell ⟨G1, 0, none⟩ (.int .i64 ((x : Int) + 1))) G1 (x + 1) ∧ x + 1 = st + 1) := Lib.hid ⟨hF.1, rfl, ⟨by rw [hx1]; exact hF.2.1, hF.2.2⟩, by omega⟩
          clear hI hF q1 q2 q3 q4 q5 q6 q7 hu hdr hc hb
          gi_wp2_with fail
          exact ⟨by rw [← hYs1]; exact HF.out.1, rfl, HF.out.2.2.1, by have := HF.out.2.2.2; omega⟩
      case rest1 =>
        intro D1 W' hD hS hK
        have hbW := HY1.out.1.trans (hS.low.mono HY1.out.2.1)
        obtain ⟨-, -, q3, -, q5, q6, -⟩ := HST.out W' hbW
        have c3 := q3.cell
        have c5 := q5.cell
        have c6 := q6.cell
        have cN := hS.box.cell
        obtain ⟨mn, hmn⟩ : ∃ mn, mn = min (L - m) (st + 1) := ⟨_, rfl⟩
        rw [← hmn] at cN
        have hmi : min ((L : Int) - (m : Int)) ((st : Int) + 1) = (mn : Int) := by omega
        have hmi2 : (L : Int) - (m : Int) = ((L - m : Nat) : Int) := by omega
        have HX1 : Hid (Below (K1 + 3) X W' ∧ True) := Lib.hid ⟨hbW, trivial⟩
        have HD1 : Hid (W'.heap[D1]? = some (.deferred (some []))) := Lib.hid hK
        have HDK1 : Hid (K1 + 3 ≤ D1) := Lib.hid (by have := HY1.out.2; omega)
        clear hS hbW q3 q5 q6 hmn hmi2 hK
        gi_wp2_with fail
        rw [roundsIn_succ]
        obtain ⟨-, -, -, -, -, -, cl2⟩ := HST.out W' HX1.out.1
        gi_wp2_with fail
        obtain ⟨G2, hG2⟩ : ∃ G, G = W'.heap.size := ⟨_, rfl⟩
        obtain ⟨Y2, hY2⟩ : ∃ Y, Y = W'.alloc (.cells #[.int .i64 0] 3) := ⟨_, rfl⟩
        have hYs2 : Y2.heap.size = G2 + 1 := by rw [hY2, hG2]; simp
        have hYb2 : Below G2 W' Y2 := by rw [hY2, hG2]; exact (Below.refl _ _).alloc (Nat.le_refl _) _
        have bN2 : Boxed Y2 G2 3 (.int .i64 0) := by rw [hY2]; exact boxed_at4 hG2.symm _ _
        have hKG2 : K1 + 3 ≤ G2 := by rw [hG2]; have := HX1.out.1.size; have := HX0.out.2; omega
        have hXY2 : Below (K1 + 3) X Y2 := HX1.out.1.trans (hYb2.mono hKG2)
        have hDY : Y2.heap[D1]? = some (.deferred (some [])) := (hYb2.block _ (by rw [hG2]; exact (Array.getElem?_eq_some_iff.1 HD1.out).1)).trans HD1.out
        have hDG : D1 < G2 := by rw [hG2]; exact (Array.getElem?_eq_some_iff.1 HD1.out).1
        have HDY : Hid (D1 < G2 ∧ Y2.heap[D1]? = some (.deferred (some []))) := Lib.hid ⟨hDG, hDY⟩
        clear hDY hDG
        obtain ⟨-, -, -, -, -, -, g72⟩ := HST.out Y2 hXY2
        have hLY2 := HLK.out Y2 hXY2
        have hseq2 := sinceSeqI 11 (by omega) (K1 + 1 + 1) Y2 g72.cell hLY2
        rw [HLL.out, ← HYS.out] at hseq2
        rw [← hY2, ← hG2]
        have HY2 := Lib.hid (And.intro hXY2 (And.intro hKG2 hYs2))
        clear hY2 hG2 g72 hLY2 cl2
        refine rangeIdxB (encs := encEI ys) (fun i T => (T.setIfInBounds 67 (.int .i64 (ys.getD i 0))).setIfInBounds 19 (.int .i64 (ys.getD i 0))) 4 rfl (by omega) (gf := 59) (lb := #[.pointer (some ⟨K1 + 1 + 1, 0, none⟩)]) rfl trivial (enters_of Try.func59 (by kernel_rfl) rfl)
          hseq2 (Below.refl _ _) (fun _ => rfl) (fun hi k A => StI Y2 A G2 k ∧ k ≤ st) (fun hi k A => StI Y2 A G2 k ∧ k = st + 1)
          (fun hi s A C h _ hs => ⟨h.1.step hYs2 hs, h.2⟩) (fun hi s A C h _ hs => ⟨h.1.step hYs2 hs, h.2⟩)
          (fun hi s A h => HLK.out A (HY2.out.1.trans (h.1.low.mono HY2.out.2.1)))
          (fun A hA hs => ⟨StI.start bN2 hYs2 hA, Nat.zero_le _⟩) ?assign2 ?body2
          (fun W => StI Y2 W G2 (min (L - m) (st + 1))) ?done2 ?stop2 ?q2 ?rest2
        case assign2 =>
          intro lr' x V' K hK
          unfold encEI
          gi_wp2
          exact hK
        case done2 =>
          rintro hi W hh ⟨h1, h2⟩
          rw [Nat.min_eq_left (by omega)]
          exact h1
        case stop2 =>
          rintro hi k W hh hk ⟨h1, h2⟩
          rw [h2] at h1 hk
          rw [Nat.min_eq_right (by omega)]
          exact h1
        case q2 => exact fun a W hq => hq
        case body2 =>
          rintro lr' hi x V' hhi ⟨hI, hle⟩ hlt
          have hb := HY2.out.1.trans (hI.low.mono HY2.out.2.1)
          obtain ⟨q1, q2, q3, q4, q5, q6, q7⟩ := HST.out V' hb
          have c3 := q3.cell
          have c5 := q5.cell
          have c6 := q6.cell
          have cN := hI.box.cell
          have fN := hI.box.frozen
          have hne3 : w.heap.size ≠ G2 := by have := HW1.out; have := HY2.out.2.1; omega
          have c3s := fun v => (q3.other hne3 v).cell
          have cNs := fun v => (hI.box.set v).cell
          have hdr : l[m + x]? = some (ys.getD x 0) := by
            have hlx : m + x < l.length := by rw [HLL.out]; omega
            rw [HYS.out, List.getD_eq_getElem?_getD, List.getElem?_drop, List.getElem?_eq_getElem hlx]; rfl
          obtain ⟨g, o, hqa, hc⟩ := q2 _ _ hdr
          obtain ⟨u, hu⟩ : ∃ u, u = ys.getD x 0 := ⟨_, rfl⟩
          rw [← hu] at hc ⊢
          have hco : V'.cell? ⟨g, o + (m + x), none⟩ = some (.int .i64 u) := hc
          simp only [List.setIfInBounds_toArray, List.set_cons_succ, List.set_cons_zero]
          have hi0 : ¬ (m : Int) + (x : Int) < 0 := by omega
          have hi1 : ¬ (L : Int) ≤ (m : Int) + (x : Int) := by omega
          have hi2 : (0 : Int) ≤ (m : Int) + (x : Int) := by omega
          have hi3 : (m : Int) + (x : Int) < (L : Int) := by omega
          have htn : ((m : Int) + (x : Int)).toNat = m + x := by omega
          have hF := hI.more (v := (x : Int) + 1) hYs2 hhi
          have hx1 : ((x + 1 : Nat) : Int) = (x : Int) + 1 := by omega
          subst hqa
          by_cases hbr : x + 1 ≤ st
          · have hg9 : ¬ (st : Int) < (x : Int) + 1 := by omega
            have HF : Hid (KeepsIn Y2.heap.size hi V' (V'.setCell ⟨G2, 0, none⟩ (.int .i64 ((x : Int) + 1))) ∧ StI Y2 (V'.setCell ⟨G2, 0, none⟩ (.int .i64 ((x : Int) + 1))) G2 (x + 1) ∧ x + 1 ≤ st) := Lib.hid ⟨hF.1, ⟨by rw [hx1]; exact hF.2.1, hF.2.2⟩, hbr⟩
            clear hI hF q1 q2 q3 q4 q5 q6 q7 hu hdr hc hb
            gi_wp2_with fail
            exact ⟨by rw [← hYs2]; exact HF.out.1, HF.out.2.1⟩
          · have hg9 : (st : Int) < (x : Int) + 1 := by omega
            have HF : Hid (KeepsIn Y2.heap.size hi V' (V'.setCell ⟨G2, 0, none⟩ (.int .i64 ((x : Int) + 1))) ∧ Code.exit 4 = Code.exit 4 ∧ StI Y2 (V'.setCell ⟨G2, 0, none⟩ (.int .i64 ((x : Int) + 1))) G2 (x + 1) ∧ x + 1 = st + 1) := Lib.hid ⟨hF.1, rfl, ⟨by rw [hx1]; exact hF.2.1, hF.2.2⟩, by omega⟩
            clear hI hF q1 q2 q3 q4 q5 q6 q7 hu hdr hc hb
            gi_wp2_with fail
            exact ⟨by rw [← hYs2]; exact HF.out.1, rfl, HF.out.2.2.1, by have := HF.out.2.2.2; omega⟩
        case rest2 =>
          intro D2 V' hD hS hK
          have hbW := HY2.out.1.trans (hS.low.mono HY2.out.2.1)
          obtain ⟨-, -, q3, -, q5, q6, -⟩ := HST.out V' hbW
          have c3 := q3.cell
          have c5 := q5.cell
          have c6 := q6.cell
          have cN := hS.box.cell
          obtain ⟨mn, hmn⟩ : ∃ mn, mn = min (L - m) (st + 1) := ⟨_, rfl⟩
          rw [← hmn] at cN
          have hmi : min ((L : Int) - (m : Int)) ((st : Int) + 1) = (mn : Int) := by omega
          have hmi2 : (L : Int) - (m : Int) = ((L - m : Nat) : Int) := by omega
          have HX2 : Hid (Below (K1 + 3) X V') := Lib.hid hbW
          have HD2 : Hid (V'.heap[D2]? = some (.deferred (some [])) ∧ V'.heap[D1]? = some (.deferred (some [])) ∧ K1 + 3 ≤ D2 ∧ D1 ≠ D2) := Lib.hid ⟨hK, (hS.low.block _ HDY.out.1).trans HDY.out.2, by have := HY2.out.2; omega, by have := HDY.out.1; have := HY2.out.2.2; omega⟩
          clear hS hbW q3 q5 q6 hmn hmi2 hK
          gi_wp2_with fail
          rw [roundsIn_succ]
          obtain ⟨t1, t2, t3, t4, t5, t6, -⟩ := HST.out V' HX2.out
          obtain ⟨cq, hLq⟩ := t1.list
          have hcb1 := cutBadI hLq ((m : Int) - 1 - (far : Int)) (.inl (by omega))
          have hcb2 := cutBadI hLq ((L : Int) + 1 + (far : Int)) (.inr (by rw [HLL.out]; omega))
          have c5 := t5.cell
          have c6 := t6.cell
          have hel2 := t1.elements
          have HQ2 := Lib.hid (And.intro t2 (And.intro t4 (And.intro t5 t6)))
          clear t1 t2 t3 t4 t5 t6 hLq
          gi_wp2_with fail
          refine ⟨trivial, (callsIn_wide.2 hcb1).mono ?_⟩
          rintro e Q1 ⟨rfl, rfl⟩
          clear hcb1
          gi_wp2_with fail
          refine ⟨trivial, (callsIn_wide.2 hcb2).mono ?_⟩
          rintro e Q2 ⟨rfl, rfl⟩
          clear hcb2 c5 c6
          gi_wp2_with fail
          refine ⟨trivial, (callsIn_wide.2 hel2).mono ?_⟩
          rintro e E9 ⟨qb, cb, rfl, hcb9, hO9, hR9, hB9, -, -⟩
          have k2 := (HQ2.out.1.below hB9.out)
          have k4 : Boxed E9 (w.heap.size + 1) 4 (.bool false) := (hB9.out.block _ HQ2.out.2.1.lt).trans HQ2.out.2.1
          have k5 : Boxed E9 K1 48 (.slice qa L ca) := (hB9.out.block _ HQ2.out.2.2.1.lt).trans HQ2.out.2.2.1
          have k6 : Boxed E9 (K1 + 1) 3 (.int .i64 (m : Nat)) := (hB9.out.block _ HQ2.out.2.2.2.lt).trans HQ2.out.2.2.2
          have d2 : E9.heap[D2]? = some (.deferred (some [])) := (hB9.out.block _ (Array.getElem?_eq_some_iff.1 HD2.out.1).1).trans HD2.out.1
          have d1 : E9.heap[D1]? = some (.deferred (some [])) := (hB9.out.block _ (Array.getElem?_eq_some_iff.1 HD2.out.2.1).1).trans HD2.out.2.1
          have hEq : Hid (∀ q, Calls Try.prog 29 #[.slice qa L ca, .slice qb l.length cb] (E9.drewN q) fun e w' => e = .returned (.bool true) ∧ ∃ k, w' = (E9.drewN q).drewN k) := Lib.hid fun q => (k2.drewN q).same (hR9.out.drewN q) HLL.out rfl (by omega) (by rw [HLL.out]; omega)
          have hMk : Hid (∀ q, Calls Try.prog 28 #[.pointer (some ⟨B, 0, none⟩)] (E9.drewN q) fun e w' => e = .returned (.int .i64 (m : Nat)) ∧ w' = E9.drewN q) := Lib.hid fun q => hO9.out.marked q
          have hlow9 : Below w.heap.size w E9 := H0.out.1.trans (hO9.out.low.mono (by have := HBS.out; omega))
          have c5 := k5.cell
          have c6 := k6.cell
          have c4 := k4.cell
          have f4 := k4.frozen
          have HE9 := Lib.hid (And.intro k4 (And.intro d2 (And.intro d1 hlow9)))
          have hK1n : K1 ≠ w.heap.size + 1 := by have := HW1.out; omega
          clear k2 k4 k5 k6 d2 d1 hlow9 hO9 hR9 hB9 hel2 hcb9
          gi_wp2_with fail
          refine wpIn_wide.2 ?_
          refine wp_region_noPanic ?_
          go_region_with (first | (go_at_call 29; refine (hEq.out _).mono ?_; rintro e w8 ⟨rfl, k8, rfl⟩) | (go_at_call 28; refine (hMk.out _).mono ?_; rintro e w9 ⟨rfl, rfl⟩) | (go_at_call 10; refine (HW.out _).mono ?_; rintro e w10 ⟨rfl, hb10⟩; have k4w : Boxed w10 (w.heap.size + 1) 4 (.bool false) := (hb10.block _ HE9.out.1.lt).trans HE9.out.1; have c4w := k4w.cell; have f4w := k4w.frozen; have HF10 : Hid (Boxed w10 (w.heap.size + 1) 4 (.bool false) ∧ w10.heap[D2]? = some (.deferred (some [])) ∧ w10.heap[D1]? = some (.deferred (some [])) ∧ Below w.heap.size w w10) := Lib.hid ⟨k4w, (hb10.block _ (Array.getElem?_eq_some_iff.1 HE9.out.2.1).1).trans HE9.out.2.1, (hb10.block _ (Array.getElem?_eq_some_iff.1 HE9.out.2.2.1).1).trans HE9.out.2.2.1, HE9.out.2.2.2.trans (Below.mono ⟨hb10.os, hb10.tape, hb10.output, hb10.size, hb10.block⟩ HE9.out.2.2.2.size)⟩; clear k4w hb10))
          all_goals refine NoPanic.normal ?_
          all_goals gi_wp2_with fail
          all_goals (
            have e2 : (w10.setCell ⟨w.heap.size + 1, 0, none⟩ (.bool true)).heap[D2]? = some (.deferred (some [])) := (Below.heap_setCell _ _ _ _ (by show D2 ≠ w.heap.size + 1; have := HD2.out.2.2.1; have := HW1.out.1; have := HW1.out.2; omega)).trans HF10.out.2.1
            have e1 : ((w10.setCell ⟨w.heap.size + 1, 0, none⟩ (.bool true)).putObj D2 (.deferred none)).heap[D1]? = some (.deferred (some [])) := (World.putObj_heap_other HD2.out.2.2.2).trans ((Below.heap_setCell _ _ _ _ (by show D1 ≠ w.heap.size + 1; have := HDK1.out; have := HW1.out.1; have := HW1.out.2; omega)).trans HF10.out.2.2.1)
            have b2 := ((HF10.out.1.set (.bool true)).kept (grownBy_putObj' _ D2 (.deferred none)) (by simp; have := HD2.out.2.2.1; have := HW1.out.1; have := HW1.out.2; omega)).kept (grownBy_putObj' _ D1 (.deferred none)) (by simp; have := HDK1.out; have := HW1.out.1; have := HW1.out.2; omega)
            have hc5 := b2.cell
            refine ⟨by simp, .inl ⟨_, _, rfl, run_takeDeferred e2, ?_⟩⟩
            refine ⟨by simp, .inl ⟨_, _, rfl, run_takeDeferred e1, ?_⟩⟩
            refine ⟨.bool true, ?_, rfl, ?_⟩
            · simp [results, Try.f7, go_sem, hc5]
            · have g0 := HF10.out.2.2.2.setCell (p := ⟨w.heap.size + 1, 0, none⟩) (by show w.heap.size ≤ w.heap.size + 1; omega) (.bool true)
              have g1 := g0.grown (grownBy_putObj' _ D2 (.deferred none)) g0.size (fun k e => by cases e; have := HD2.out.2.2.1; have := HW1.out.1; have := HW1.out.2; omega)
              exact g1.grown (grownBy_putObj' _ D1 (.deferred none)) g1.size (fun k e => by cases e; have := HDK1.out; have := HW1.out.1; have := HW1.out.2; omega))

/-- HistoryStops, for every input. -/
theorem stops_any (lim : Nat) (hlim : lim ≤ 255) (a : Option Addr) (len cap : Nat) (xs : List (Nat × Nat)) (hlen : xs.length = len) (hcap : len ≤ cap) (hc63 : cap ≤ 9223372036854775807) (st : Nat) (hst : st ≤ 255) (far : Nat) (hfar : far ≤ 65535) (w : World) (hX : MovesAt w w.heap.size a xs) :
    Calls Try.prog 7 #[.int .u8 (lim : Nat), .slice a len cap, .int .u8 (st : Nat), .int .u16 (far : Nat)] w fun e w' => e = .returned (.bool true) ∧ Below w.heap.size w w' :=
  callsIn_wide.1 (stops_in lim hlim a len cap xs hlen hcap hc63 st hst far hfar w hX)
end Go.Proofs.Ytahccgbmbnmcgaa
