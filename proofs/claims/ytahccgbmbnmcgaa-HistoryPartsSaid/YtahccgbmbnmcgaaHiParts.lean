/- HistoryParts, the walk. -/
import Derived.Test.YtahccgbmbnmcgaaHiTri
import Derived.Test.YtahccgbmbnmcgaaHiGat2
import Derived.Test.YtahccgbmbnmcgaaHiSinceI
import Derived.Test.YtahccgbmbnmcgaaHiWorks
namespace Go.Proofs.Ytahccgbmbnmcgaa
open Go Go.RowKit

attribute [local go_sem] Oper.semAt_some

/-- slices.Clone of the first k of integers that lie side by side. -/
theorem cloneRd {W : World} {q : Option Addr} {l : List Int} (h : RdI W q l) (k c : Nat) (hk : k ≤ l.length) (hl : l.length ≤ 100000) (hq : ∀ a, q = some a → a.spot = none) :
    Calls Try.prog 30 #[.slice q k c] W fun e w' => ∃ v, e = .returned v ∧ w'.ownsRow W.heap.size 3 1 v k ((l.take k).map (Value.int .i64)) ∧ Below W.heap.size W w' := by
  cases q with
  | none =>
    have hl0 : l = [] := by
      cases l with
      | nil => rfl
      | cons x t => obtain ⟨g, o, h1, _⟩ := h 0 x rfl; cases h1
    subst hl0
    obtain rfl : k = 0 := by simpa using hk
    exact (Try.slices_Clone_int_nil 0 c W).mono fun e w' ⟨he, hw⟩ => ⟨_, he, (by rw [hw]; exact World.ownsRow_nil _ _ _ _), (by rw [hw]; exact Below.refl _ _)⟩
  | some a =>
    obtain ⟨g, o, s⟩ := a
    obtain rfl : s = none := hq _ rfl
    refine (Try.slices_Clone_int g o k c l W hk (by omega) (fun j hj => ?_)).mono fun e w' ⟨v, he, hr, _, hb⟩ => ⟨v, he, hr, hb⟩
    obtain ⟨g', o', e, hc⟩ := h j _ (List.getElem?_eq_getElem hj)
    cases e
    rw [hc, List.getD_eq_getElem?_getD, List.getElem?_eq_getElem hj]
    rfl

set_option maxHeartbeats 12800000 in
set_option maxRecDepth 100000 in
theorem parts_in (lim : Nat) (hlim : lim ≤ 255) (a : Option Addr) (len cap : Nat) (xs : List (Nat × Nat)) (hlen : xs.length = len) (hcap : len ≤ cap) (hc63 : cap ≤ 9223372036854775807) (w : World) (hX : MovesAt w w.heap.size a xs) :
    CallsIn Fence.wide 12 Try.prog 6 #[.int .u8 (lim : Nat), .slice a len cap] w fun e w' => e = .returned (.bool true) ∧ Below w.heap.size w w' := by
  obtain ⟨most, hmost⟩ : ∃ most, most = 1 + lim % 64 := ⟨_, rfl⟩
  have hm1 : most ≤ 64 := by omega
  obtain ⟨r, hr⟩ : ∃ r, r = lim % 64 := ⟨_, rfl⟩
  have hr2 : (lim : Int) % 64 = (r : Int) := by omega
  have hm2 : (1 : Int) + (r : Int) = (most : Int) := by omega
  have hr3 : r ≤ 63 := by omega
  clear hr hmost
  obtain ⟨n, hn⟩ : ∃ n, n = min len 150 := ⟨_, rfl⟩
  have hnl : n ≤ len := by omega
  have hn150 : n ≤ 150 := by omega
  have hmin : min (len : Int) 150 = (n : Int) := by omega
  have hncap : n ≤ cap := by omega
  have hn0 : (0 : Int) ≤ (n : Int) := by omega
  have hmax : max (n : Int) 0 = (n : Int) := by omega
  have HX := Lib.hid (And.intro hX hlen)
  have HW : Hid (∀ W, Calls Try.prog 10 #[] W fun e w' => e = .returned (.bool true) ∧ Below W.heap.size W w') := Lib.hid works7_any
  clear hX hlen hn
  obtain ⟨W0, hW0⟩ : ∃ W0, W0 = (w.alloc (.cells #[.bool false] 4)).alloc (.cells #[.int .i64 (most : Nat)] 3) := ⟨_, rfl⟩
  have hs0 : W0.heap.size = w.heap.size + 2 := by rw [hW0]; simp
  have hb0 : Below w.heap.size w W0 := by rw [hW0]; exact ((Below.refl _ _).alloc (Nat.le_refl _) _).alloc (by simp) _
  have bR : Boxed W0 w.heap.size 4 (.bool false) := by rw [hW0]; exact (boxed_at4 rfl _ _).alloc _
  have bM : Boxed W0 (w.heap.size + 1) 3 (.int .i64 (most : Nat)) := by rw [hW0]; exact boxed_at4 (by simp) _ _
  obtain ⟨B, hB⟩ : ∃ B, B = W0.heap.size := ⟨_, rfl⟩
  have hnew := newI most (by omega) W0
  rw [← hB] at hnew
  have hBS : B = w.heap.size + 2 := by omega
  have H0 := Lib.hid (And.intro hb0 (And.intro bR (And.intro bM hB)))
  have cM := bM.cell
  clear hs0 hb0 bR bM hB
  refine callsIn_of_wp_marks Try.func6 rfl trivial ?_ rfl
  simp only [Try.ntmps6, List.size_toArray, List.length_nil, List.length_cons, Nat.reduceAdd, Nat.reduceSub, Array.replicate_succ, Array.replicate_zero, List.push_toArray, List.append_toArray, List.nil_append, List.cons_append]
  have HBS := Lib.hid hBS
  clear hBS
  gi_wp2_with fail
  rw [← hW0]
  clear hW0
  gi_wp2_with fail
  refine ⟨trivial, (callsIn_wide.2 hnew).mono ?_⟩
  rintro e w1 ⟨rfl, hL0, hb1, hs1⟩
  have HO : Hid (One W0 w1 B B most 0 [] none) := Lib.hid ⟨⟨0, hL0⟩, by rw [H0.out.2.2.2]; rw [H0.out.2.2.2] at hb1; exact hb1, Nat.le_refl _, (fun a h => by cases h), by rw [H0.out.2.2.2]; exact Nat.le_refl _⟩
  clear hnew hL0 hb1 hs1
  gi_wp2_with fail
  gi_loopw [43] (fun sc wr => ∃ (i : Nat), i ≤ n ∧ sc = .int .i64 i ∧ Hid (∃ (m : Nat) (l : List Int) (p : Option Addr), One W0 wr B B most m l p)) (fun sc _ => n - (intOf sc).toNat)
  case atStart => exact ⟨0, Nat.zero_le _, rfl, Lib.hid ⟨0, [], none, HO.out⟩⟩
  case round =>
    obtain ⟨i, hi, rfl, HT⟩ := hrel
    clear HO
    obtain ⟨m, l, p, hT⟩ := HT.out
    have bM' : Boxed wr (w.heap.size + 1) 3 (.int .i64 (most : Nat)) := (hT.low.block _ (by have := HBS.out; omega)).trans H0.out.2.2.1
    have cM' := bM'.cell
    by_cases hlt : i < n
    · obtain ⟨⟨k, v⟩, hx⟩ : ∃ x, xs[i]? = some x := ⟨_, List.getElem?_eq_getElem (by rw [HX.out.2]; omega)⟩
      obtain ⟨⟨g, o, rfl, hg, e0, e1⟩, hk, hv⟩ := HX.out.1 i _ hx
      dsimp only at e0 e1 hk hv
      have hgB : g < B := by have := HBS.out; omega
      have e0' := (hT.low.cell (p := ⟨g, o + i * 2, none⟩) hgB).trans ((H0.out.1.cell (p := ⟨g, o + i * 2, none⟩) hg).trans e0)
      have e1' := (hT.low.cell (p := ⟨g, o + i * 2 + 1, none⟩) hgB).trans ((H0.out.1.cell (p := ⟨g, o + i * 2 + 1, none⟩) hg).trans e1)
      have hmv := (hT.below ((Below.refl _ _).alloc (Nat.le_refl _) (.cells #[.int .u8 k, .int .u16 v] 51))).moved k v hv
      have cMA : ∀ o, (wr.alloc o).cell? ⟨w.heap.size + 1, 0, none⟩ = some (.int .i64 (most : Nat)) := fun o => (bM'.alloc o).cell
      have hi0 : (0 : Int) ≤ (i : Int) := by omega
      have hi1 : (i : Int) < (n : Int) := by omega
      clear e0 e1 hx hT HT bM'
      gi_wp2_with fail
      refine ⟨trivial, (callsIn_wide.2 hmv).mono ?_⟩
      rintro e W2 ⟨rfl, p', m', l', hO2, -, -, -⟩
      have HN : Hid (∃ (m : Nat) (l : List Int) (p : Option Addr), One W0 W2 B B most m l p) := Lib.hid ⟨_, _, _, hO2⟩
      clear hmv hO2 e0' e1' cMA cM'
      gi_wp2_with fail
      go_roundw
      case rel => exact ⟨i + 1, by omega, by go_num, HN⟩
      case measure => simp [intOf]; omega
    · obtain rfl : i = n := by omega
      have hel := hT.elements
      have hll : l.length ≤ most := hT.ll
      have hml : m ≤ l.length := hT.ml
      have HT1 := Lib.hid hT
      clear HT hT bM'
      gi_wp2_with fail
      refine ⟨trivial, (callsIn_wide.2 hel).mono ?_⟩
      rintro e V1 ⟨qa, ca, rfl, hca, HA1, HA2, HA3, hqa0, hqa⟩
      have hmk1 := HA1.out.marked0
      have hcl := cloneRd HA2.out m ca hml (by omega) (fun a ha => (hqa a ha).2.2.2)
      have hqB : ∀ a, qa = some a → a.block < V1.heap.size := fun a ha => (hqa a ha).2.1
      have HQA := Lib.hid hqB
      have hm0 : ¬ (m : Int) < 0 := by omega
      have hm1' : ¬ (l.length : Int) < (m : Int) := by omega
      have hmca : m ≤ ca := by omega
      clear hel hqa hqa0 hqB HT1 cM'
      gi_wp2_with (refine ⟨trivial, ?_⟩; gi_at_call 28; refine (callsIn_wide.2 hmk1).mono ?_; rintro e w' ⟨rfl, rfl⟩)
      refine ⟨trivial, (callsIn_wide.2 hcl).mono ?_⟩
      rintro e V2 ⟨vc, rfl, hrc, hbc⟩
      obtain ⟨fp, fc, rfl, hfc, hfc63⟩ := ownsRow_slice4 hrc
      gi_wp2_with fail
      refine ⟨trivial, (callsIn_wide.2 (sinceMakeI _ _)).mono ?_⟩
      rintro e V3 ⟨rfl, rfl⟩
      gi_wp2_with fail
      obtain ⟨R, hR⟩ : ∃ R, R = w'.heap.size := ⟨_, rfl⟩
      obtain ⟨Bx, hBx⟩ : ∃ Bx, Bx = V2.heap.size := ⟨_, rfl⟩
      obtain ⟨X, hX⟩ : ∃ X, X = (V2.alloc (.cells #[.slice fp m fc] 48)).alloc (.cells #[.pointer (some ⟨B, 0, none⟩)] 45) := ⟨_, rfl⟩
      have hXs : X.heap.size = Bx + 2 := by rw [hX, hBx]; simp
      have hXb : Below Bx V2 X := by rw [hX, hBx]; exact ((Below.refl _ _).alloc (Nat.le_refl _) _).alloc (by simp) _
      have hRB : R ≤ Bx := by rw [hR, hBx]; exact hbc.size
      have bO : Boxed X Bx 48 (.slice fp m fc) := by rw [hX]; exact (boxed_at4 hBx.symm _ _).alloc _
      have bA : Boxed X (Bx + 1) 45 (.pointer (some ⟨B, 0, none⟩)) := by rw [hX]; exact boxed_at4 (by simp [hBx]) _ _
      have hwX : Below R w' X := by rw [hR]; exact hbc.trans (hXb.mono (by rw [hBx]; exact hbc.size))
      have hTX : One W0 X B B most m l p := HA1.out.below (by rw [← hR]; exact hwX)
      have hRX : RdI X qa l := HA2.out.below (by rw [← hR]; exact hwX)
      have hrX : X.ownsRow R 3 1 (.slice fp m fc) m ((l.take m).map (Value.int .i64)) := by
        have := ownsRow_block (w' := X) hrc (fun k hk => hXb.block k (by rw [hBx]; exact (hrc.lt k hk).2))
        rw [hR]; exact this
      have hBR : B < R := by rw [hR]; exact HA1.out.lt
      have hpR : ∀ a, p = some a → a.block < R := fun a ha => by rw [hR]; exact HA1.out.plt a ha
      have hqR : ∀ a, qa = some a → a.block < R := fun a ha => by rw [hR]; exact HQA.out a ha
      obtain ⟨cc, hLX⟩ := hTX.list
      have hseq := sinceSeqI 11 (by omega) (Bx + 1) X bA.cell hLX
      have HTX := Lib.hid (And.intro hTX (And.intro hRX hqR))
      have hBS1 : w.heap.size + 1 < B := by have := HBS.out; omega
      rw [← hX, ← hBx]
      clear hX hBx hXb hbc hrc hwX hTX hRX HA1 HA2 HA3 HQA hmk1 hcl hR
      obtain ⟨i0, hi0, hz0, hz1, hz2⟩ := info_parts infoI
      obtain ⟨L, hL⟩ : ∃ L, L = l.length := ⟨_, rfl⟩
      have HLL : Hid (l.length = L) := Lib.hid hL.symm
      rw [← hL] at hca hm1' hll hml hseq ⊢
      clear hL
      obtain ⟨ys, hys⟩ : ∃ ys, ys = l.drop m := ⟨_, rfl⟩
      rw [← hys] at hseq
      have HYS := Lib.hid hys
      clear hys
      refine rangeIdx (encs := encEI ys) (fun i T => (T.setIfInBounds 80 (.int .i64 (ys.getD i 0))).setIfInBounds 13 (.int .i64 (ys.getD i 0))) rfl (by omega) (gf := 59) (lb := #[.pointer (some ⟨Bx + 1, 0, none⟩)]) rfl trivial (enters_of Try.func59 (by kernel_rfl) rfl)
        hseq (Below.refl _ _) (fun _ => rfl) (fun hi k A => GatW X A R Bx hi 48 3 ((l.take (m + k)).map (Value.int .i64)) ∧ X.heap.size ≤ hi) (fun _ _ _ _ => False)
        (fun hi s A C h _ hs => ⟨h.1.step hRB (by omega) hs, h.2⟩)
        (fun _ _ _ _ _ h _ _ => h)
        (fun hi s A h => hLX.same (h.1.block _ hBR) (fun a ha => h.1.block _ (hpR a ha)))
        (fun A hA hs => ⟨GatW.start bO (by rw [List.length_map, List.length_take, Nat.add_zero, Nat.min_eq_left (by have := HLL.out; omega)]; exact hrX) (by omega) hA, hA.size⟩) ?assign1 ?body1 ?done1 ?stop1
      case assign1 =>
        intro lr' x W' K hK
        unfold encEI
        gi_wp2
        exact hK
      case body1 =>
        intro lr' hi x W' hhi hI hlt
        obtain ⟨v, hv, hrow, hd⟩ := hI.1.out
        have hlk : ((l.take (m + x)).map (Value.int .i64)).length = m + x := by have := HLL.out; simp; omega
        rw [hlk] at hrow
        obtain ⟨rp, rc, rfl, hrc1, hrc63⟩ := ownsRow_slice4 hrow
        have c1 := hv.cell
        have c0 : W'.cell? ⟨w.heap.size + 1, 0, none⟩ = some (.int .i64 (most : Nat)) := by
          have hb1 : Boxed X (w.heap.size + 1) 3 (.int .i64 (most : Nat)) := (HTX.out.1.low.block _ (by omega)).trans H0.out.2.2.1
          exact Boxed.cell ((hI.1.block (w.heap.size + 1) (by omega)).trans hb1)
        have hmx : ¬ (most : Int) < ((m + x : Nat) : Int) := by omega
        have hdr : ys.getD x 0 = l.getD (m + x) 0 := by rw [HYS.out, List.getD_eq_getElem?_getD, List.getElem?_drop, List.getD_eq_getElem?_getD]
        have htk : (l.take (m + (x + 1))).map (Value.int .i64) = (l.take (m + x)).map (Value.int .i64) ++ [Value.int .i64 (ys.getD x 0)] := by
          rw [hdr, ← Nat.add_assoc, takeSucc (show l[m + x]? = some (l.getD (m + x) 0) by rw [List.getD_eq_getElem?_getD, List.getElem?_eq_getElem (by have := HLL.out; omega)]; rfl), List.map_append]; rfl
        simp only [List.setIfInBounds_toArray, List.set_cons_succ, List.set_cons_zero]
        rw [htk]
        obtain ⟨u, hu⟩ : ∃ u, u = ys.getD x 0 := ⟨_, rfl⟩
        rw [← hu]
        have hsz : hi ≤ W'.heap.size := hI.1.hiw
        have hRW : R ≤ W'.heap.size := by omega
        have hkl : ((l.take (m + x)).map (Value.int .i64) ++ [Value.int .i64 u]).length = m + x + 1 := by have := HLL.out; simp; omega
        have HI := Lib.hid hI
        have HR := Lib.hid hrow
        have HV := Lib.hid hv
        have HD := Lib.hid hd
        clear hI hu htk hlk hd hdr
        generalize (l.take (m + x)).map (Value.int .i64) = zs at *
        generalize hmxe : m + x = mx at *
        gi_wp2_with (gi_at_builtin; refine wpListIn_append_own_at _ rfl _ _ 48 rfl R 3 i0 (.int .i64 0) 1 8 Try.underlying48 hi0 hz0 hz1 hz2 rfl (by decide) _ _ _ rfl (hrow.alloc _) ⟨W'.heap.size, 0, none⟩ 1 1 [.int .i64 u] rfl rfl (cell_one_new _ _ _) (by simp [Value.oneCell']) (by unfold maxLen; omega) (by omega) (by simp only [World.size_alloc]; omega) ?_; intro v' w1 hown' hgrow _ hh; obtain ⟨g', cap', rfl⟩ := ownsRow_succ hown'; have hG := grew HV.out (by decide) HR.out (ys := zs ++ [Value.int .i64 u]) hown' hgrow; have hc1 := hG.box1.cell; have hf1 := hG.box1.frozen)
        have hm := HI.out.1.more (zs := zs ++ [Value.int .i64 u]) (v' := .slice (some ⟨g', 0, none⟩) (mx + 1) cap') HV.out HD.out (by rw [hkl]; exact hG) hh hRB (by omega)
        exact ⟨by rw [← hXs]; exact hm.2, hm.1, by rw [← hXs]; exact HI.out.2⟩
      case stop1 => exact fun _ _ _ _ _ _ _ _ h _ => h.elim
      case done1 =>
        intro D hi W' hD hDh hI hK
        obtain ⟨v, hv, hrow, -⟩ := hI.1.out
        rw [show m + (L - m) = L by omega, List.take_of_length_le (by rw [HLL.out]; exact Nat.le_refl _), List.length_map, HLL.out] at hrow
        obtain ⟨rp, rc, rfl, hrc1, hrc63⟩ := ownsRow_slice4 hrow
        have hlow := hI.1.block
        have hsW : X.heap.size ≤ W'.heap.size := hI.1.size
        have bRS : Boxed W' w.heap.size 4 (.bool false) := (hlow _ (by omega)).trans ((HTX.out.1.low.block _ (by omega)).trans H0.out.2.1)
        have bMS : Boxed W' (w.heap.size + 1) 3 (.int .i64 (most : Nat)) := (hlow _ (by omega)).trans ((HTX.out.1.low.block _ (by omega)).trans H0.out.2.2.1)
        have hLW : HLI W' B p cc most m l := hLX.same (hlow _ hBR) (fun a ha => hlow _ (hpR a ha))
        have hOW : One W0 W' B B most m l p := ⟨⟨cc, hLW⟩, HTX.out.1.low.trans ⟨hI.1.os, hI.1.tape, hI.1.output, hI.1.size, fun k hk => hlow k (by omega)⟩, Nat.le_refl _, HTX.out.1.np, HTX.out.1.nw⟩
        have hQW : RdI W' qa l := HTX.out.2.1.kept (fun a ha _ => hlow _ (hqR a ha))
        have hRW : RdI W' rp l := rdI_of_row hrow
        have hE := hRW.same (c := rc) (d := ca) hQW HLL.out HLL.out (by omega) (by omega)
        have cO := hv.cell
        have HST : Hid (∀ V, Below W'.heap.size W' V → One W0 V B B most m l p ∧ RdI V qa l ∧ Boxed V w.heap.size 4 (.bool false) ∧ Boxed V (w.heap.size + 1) 3 (.int .i64 (most : Nat)) ∧ V.heap[D]? = some (.deferred (some []))) := Lib.hid fun V hb =>
          ⟨hOW.below hb, hQW.below hb, (hb.block _ bRS.lt).trans bRS, (hb.block _ bMS.lt).trans bMS, (hb.block _ (Array.getElem?_eq_some_iff.1 hK).1).trans hK⟩
        have HDl : Hid (Bx ≤ D) := Lib.hid (by omega)
        clear hI hv hrow hlow hsW bRS bMS hLW hOW hQW hRW hK hLX hseq bO bA hrX hqR hpR
        gi_wp2_with fail
        refine ⟨trivial, (callsIn_wide.2 hE).mono ?_⟩
        rintro e Z0 ⟨rfl, dr, rfl⟩
        obtain ⟨Z, hZ⟩ : ∃ Z, Z = W'.drewN dr := ⟨_, rfl⟩
        have hbZ : Below W'.heap.size W' Z := by rw [hZ]; exact Below.drewN' _ (Below.refl _ _)
        have hsZ : Z.heap.size = W'.heap.size := by rw [hZ]; rfl
        have HSZ : Hid (∀ V, Below Z.heap.size Z V → One W0 V B B most m l p ∧ RdI V qa l ∧ Boxed V w.heap.size 4 (.bool false) ∧ Boxed V (w.heap.size + 1) 3 (.int .i64 (most : Nat)) ∧ V.heap[D]? = some (.deferred (some []))) := Lib.hid fun V hb => HST.out V (hbZ.trans (hb.mono (by omega)))
        rw [← hZ]
        clear hE cO hZ hbZ hsZ HST
        gi_wp2_with fail
        gi_loopw [95] (fun sc wr => ∃ (j : Nat), j ≤ L ∧ sc = .int .i64 j ∧ wr = Z) (fun sc _ => L - (intOf sc).toNat)
        case atStart => exact ⟨0, Nat.zero_le _, rfl, rfl⟩
        case round =>
          obtain ⟨j, hj, rfl, rfl⟩ := hrel
          by_cases hltj : j < L
          · obtain ⟨y, hy⟩ : ∃ y, l[j]? = some y := ⟨_, List.getElem?_eq_getElem (by rw [HLL.out]; exact hltj)⟩
            obtain ⟨g1, g2, g3, g4, g5⟩ := HSZ.out wr (Below.refl _ _)
            obtain ⟨g, o, rfl, hc⟩ := g2 j y hy
            obtain ⟨c9, hL9⟩ := g1.list
            have hat := atI hL9 j y hy
            have hj0 : (0 : Int) ≤ (j : Int) := by omega
            have hj1 : (j : Int) < (L : Int) := by omega
            clear g1 g2 g3 g4 g5 hL9 hy
            gi_wp2_with (refine ⟨trivial, ?_⟩; gi_at_call 32; refine (callsIn_wide.2 hat).mono ?_; rintro e w' ⟨rfl, rfl⟩)
            go_roundw
            case rel => exact ⟨j + 1, by omega, by go_num, by first | rfl | trivial⟩
            case measure => simp [intOf]; omega
          · obtain rfl : j = L := by omega
            obtain ⟨g1, g2, g3, g4, g5⟩ := HSZ.out wr (Below.refl _ _)
            have cM2 := g4.cell
            clear g1 g2 g3 g4 g5
            obtain ⟨Y, hY⟩ : ∃ Y, Y = wr.alloc (.cells #[.int .i64 (-1), .int .i64 (j : Nat), .int .i64 (most : Nat), .int .i64 (-9223372036854775808), .int .i64 9223372036854775807] 3) := ⟨_, rfl⟩
            have hbY : Below wr.heap.size wr Y := by rw [hY]; exact (Below.refl _ _).alloc (Nat.le_refl _) _
            have hcY : Y.heap[wr.heap.size]? = some (.cells #[.int .i64 (-1), .int .i64 (j : Nat), .int .i64 (most : Nat), .int .i64 (-9223372036854775808), .int .i64 9223372036854775807] 3 (0, 0)) := by rw [hY]; exact heap_alloc_new _ _
            have HC : Hid (∀ i, i < 5 → ∃ z : Int, Y.cell? ⟨wr.heap.size, i, none⟩ = some (.int .i64 z) ∧ (z < 0 ∨ (j : Int) ≤ z)) := Lib.hid fun i hi => by
              have h4 : i = 0 ∨ i = 1 ∨ i = 2 ∨ i = 3 ∨ i = 4 := by omega
              rcases h4 with rfl | rfl | rfl | rfl | rfl
              · exact ⟨_, by simp only [World.cell?, hcY]; rfl, .inl (by omega)⟩
              · exact ⟨_, by simp only [World.cell?, hcY]; rfl, .inr (by omega)⟩
              · exact ⟨_, by simp only [World.cell?, hcY]; rfl, .inr (by omega)⟩
              · exact ⟨_, by simp only [World.cell?, hcY]; rfl, .inl (by omega)⟩
              · exact ⟨_, by simp only [World.cell?, hcY]; rfl, .inr (by omega)⟩
            obtain ⟨K0, hK0⟩ : ∃ K0, K0 = wr.heap.size := ⟨_, rfl⟩
            rw [← hK0] at HC
            have HSY : Hid (∀ V, Below Y.heap.size Y V → One W0 V B B most m l p ∧ RdI V qa l ∧ Boxed V w.heap.size 4 (.bool false) ∧ Boxed V (w.heap.size + 1) 3 (.int .i64 (most : Nat)) ∧ V.heap[D]? = some (.deferred (some []))) := Lib.hid fun V hb => HSZ.out V (hbY.trans (hb.mono hbY.size))
            gi_wp2_with fail
            rw [← hY, ← hK0]
            clear hY hbY hcY hK0 HSZ
            gi_loopw [119] (fun sc wq => ∃ (s : Nat), s ≤ 5 ∧ sc = .int .i64 s ∧ wq = Y) (fun sc _ => 5 - (intOf sc).toNat)
            case atStart => exact ⟨0, Nat.zero_le _, rfl, rfl⟩
            case round =>
              obtain ⟨s, hs, rfl, rfl⟩ := hrel
              by_cases hlts : s < 5
              · obtain ⟨z, hz, hbad⟩ := HC.out s hlts
                obtain ⟨g1, g2, g3, g4, g5⟩ := HSY.out wr (Below.refl _ _)
                obtain ⟨c9, hL9⟩ := g1.list
                have hat := atBadI hL9 z (by rw [HLL.out]; exact hbad)
                have hj0 : (0 : Int) ≤ (s : Int) := by omega
                have hj1 : (s : Int) < 5 := by omega
                clear g1 g2 g3 g4 g5 hL9 hbad
                gi_wp2_with (refine ⟨trivial, ?_⟩; gi_at_call 32; refine (callsIn_wide.2 hat).mono ?_; rintro e w' ⟨rfl, rfl⟩)
                go_roundw
                case rel => exact ⟨s + 1, by omega, by go_num, by first | rfl | trivial⟩
                case measure => simp [intOf]; omega
              · obtain rfl : s = 5 := by omega
                gi_wp2_with fail
                refine ⟨trivial, (callsIn_wide.2 (HW.out _)).mono ?_⟩
                rintro e V9 ⟨rfl, hb9⟩
                obtain ⟨g1, g2, g3, g4, g5⟩ := HSY.out V9 hb9
                have cr := g3.cell
                have fr := g3.frozen
                have e1 : (V9.setCell ⟨w.heap.size, 0, none⟩ (.bool true)).heap[D]? = some (.deferred (some [])) := (Below.heap_setCell _ _ _ _ (by show D ≠ w.heap.size; have := HDl.out; omega)).trans g5
                have b2 := (g3.set (.bool true)).kept (grownBy_putObj' _ D (.deferred none)) (by have := HDl.out; simp; omega)
                have hc5 := b2.cell
                have hlow9 : Below w.heap.size w (((V9.setCell ⟨w.heap.size, 0, none⟩ (.bool true))).putObj D (.deferred none)) := by
                  have k0 : Below w.heap.size w V9 := H0.out.1.trans (g1.low.mono (by omega))
                  have k1 := k0.setCell (p := ⟨w.heap.size, 0, none⟩) (Nat.le_refl _) (.bool true)
                  exact k1.grown (grownBy_putObj' _ D (.deferred none)) k1.size (fun k e => by cases e; have := HDl.out; omega)
                have HE := Lib.hid (And.intro e1 (And.intro hc5 hlow9))
                clear g1 g2 g3 g4 g5 e1 b2 hc5 hlow9 hb9
                gi_wp2_with fail
                refine ⟨by simp, .inl ⟨_, _, rfl, run_takeDeferred HE.out.1, ?_⟩⟩
                have hc5 := HE.out.2.1
                refine ⟨.bool true, ?_, rfl, HE.out.2.2⟩
                simp [results, Try.f6, go_sem, hc5]

/-- HistoryParts, for every input. -/
theorem parts_any (lim : Nat) (hlim : lim ≤ 255) (a : Option Addr) (len cap : Nat) (xs : List (Nat × Nat)) (hlen : xs.length = len) (hcap : len ≤ cap) (hc63 : cap ≤ 9223372036854775807) (w : World) (hX : MovesAt w w.heap.size a xs) :
    Calls Try.prog 6 #[.int .u8 (lim : Nat), .slice a len cap] w fun e w' => e = .returned (.bool true) ∧ Below w.heap.size w w' :=
  callsIn_wide.1 (parts_in lim hlim a len cap xs hlen hcap hc63 w hX)
end Go.Proofs.Ytahccgbmbnmcgaa
