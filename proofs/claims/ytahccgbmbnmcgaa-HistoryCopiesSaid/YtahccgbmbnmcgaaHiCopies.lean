/- HistoryCopies, the walk. -/
import Derived.Test.YtahccgbmbnmcgaaHiTri
import Derived.Test.YtahccgbmbnmcgaaHiWorks
namespace Go.Proofs.Ytahccgbmbnmcgaa
open Go Go.RowKit

/-- The list, the copy that goes on, and the copy that stays. -/
structure Tri (w W : World) (N b lim : Nat) (m : Nat) (l : List Int) (p : Option Addr) (c : Nat) (mc : Nat) (lc : List Int) (pc : Option Addr) (d : Nat) (md : Nat) (ld : List Int) (pd : Option Addr) : Prop where
  ol : One w W N b lim m l p
  oc : One w W N c lim mc lc pc
  od : One w W N d lim md ld pd
  bc : Apt b p c pc
  bd : Apt b p d pd
  cd : Apt c pc d pd

section
variable {w W W' : World} {N b lim m : Nat} {l : List Int} {p : Option Addr} {c mc : Nat} {lc : List Int} {pc : Option Addr} {d md : Nat} {ld : List Int} {pd : Option Addr}

theorem Tri.below (h : Tri w W N b lim m l p c mc lc pc d md ld pd) (hb : Below W.heap.size W W') : Tri w W' N b lim m l p c mc lc pc d md ld pd :=
  ⟨h.ol.below hb, h.oc.below hb, h.od.below hb, h.bc, h.bd, h.cd⟩

/-- The second list turned. -/
theorem Tri.stepC {mc' : Nat} {lc' : List Int} {pc' : Option Addr} (h : Tri w W N b lim m l p c mc lc pc d md ld pd) (ho : One w W' N c lim mc' lc' pc') (ht : Touch c pc W W') (hh : Head pc pc' W.heap.size) : Tri w W' N b lim m l p c mc' lc' pc' d md ld pd :=
  ⟨h.ol.other h.oc h.bc ht, ho, h.od.other h.oc h.cd.symm ht, h.bc.head hh h.ol.lt h.ol.plt, h.bd, (h.cd.symm.head hh h.od.lt h.od.plt).symm⟩

/-- The third list turned. -/
theorem Tri.stepD {md' : Nat} {ld' : List Int} {pd' : Option Addr} (h : Tri w W N b lim m l p c mc lc pc d md ld pd) (ho : One w W' N d lim md' ld' pd') (ht : Touch d pd W W') (hh : Head pd pd' W.heap.size) : Tri w W' N b lim m l p c mc lc pc d md' ld' pd' :=
  ⟨h.ol.other h.od h.bd ht, h.oc.other h.od h.cd ht, ho, h.bc, h.bd.head hh h.ol.lt h.ol.plt, h.cd.head hh h.oc.lt h.oc.plt⟩

/-- The first list turned. -/
theorem Tri.stepL {m' : Nat} {l' : List Int} {p' : Option Addr} (h : Tri w W N b lim m l p c mc lc pc d md ld pd) (ho : One w W' N b lim m' l' p') (ht : Touch b p W W') (hh : Head p p' W.heap.size) : Tri w W' N b lim m' l' p' c mc lc pc d md ld pd :=
  ⟨ho, h.oc.other h.ol h.bc.symm ht, h.od.other h.ol h.bd.symm ht, (h.bc.symm.head hh h.oc.lt h.oc.plt).symm, (h.bd.symm.head hh h.od.lt h.od.plt).symm, h.cd⟩
end

set_option maxHeartbeats 12800000 in
set_option maxRecDepth 100000 in
theorem copies_any (lim : Nat) (hlim : lim ≤ 255) (a : Option Addr) (len cap : Nat) (xs : List (Nat × Nat)) (hlen : xs.length = len) (hcap : len ≤ cap) (hc63 : cap ≤ 9223372036854775807)
    (a2 : Option Addr) (len2 cap2 : Nat) (ys : List (Nat × Nat)) (hlen2 : ys.length = len2) (hcap2 : len2 ≤ cap2) (hc632 : cap2 ≤ 9223372036854775807) (w : World) (hX : MovesAt w w.heap.size a xs) (hY : MovesAt w w.heap.size a2 ys) :
    Calls Try.prog 8 #[.int .u8 (lim : Nat), .slice a len cap, .slice a2 len2 cap2] w fun e w' => e = .returned (.bool true) ∧ Below w.heap.size w w' := by
  obtain ⟨most, hmost⟩ : ∃ most, most = 1 + lim % 64 := ⟨_, rfl⟩
  have hm1 : most ≤ 64 := by omega
  obtain ⟨r, hr⟩ : ∃ r, r = lim % 64 := ⟨_, rfl⟩
  have hr2 : (lim : Int) % 64 = (r : Int) := by omega
  have hm2 : (1 : Int) + (r : Int) = (most : Int) := by omega
  have hr3 : r ≤ 63 := by omega
  clear hr hmost
  have hnew := newI most (by omega) w
  obtain ⟨n, hn⟩ : ∃ n, n = min len 100 := ⟨_, rfl⟩
  have hnl : n ≤ len := by omega
  have hn150 : n ≤ 100 := by omega
  have hmin : min (len : Int) 100 = (n : Int) := by omega
  have hncap : n ≤ cap := by omega
  have hn0 : (0 : Int) ≤ (n : Int) := by omega
  have hmax : max (n : Int) 0 = (n : Int) := by omega
  obtain ⟨n2, hn2⟩ : ∃ n2, n2 = min len2 50 := ⟨_, rfl⟩
  have hnl2 : n2 ≤ len2 := by omega
  have hn502 : n2 ≤ 50 := by omega
  have hmin2 : min (len2 : Int) 50 = (n2 : Int) := by omega
  have hncap2 : n2 ≤ cap2 := by omega
  have hn02 : (0 : Int) ≤ (n2 : Int) := by omega
  have hmax2 : max (n2 : Int) 0 = (n2 : Int) := by omega
  have HX := Lib.hid (And.intro hX (And.intro hlen (And.intro hY hlen2)))
  have HW : Hid (∀ W, Calls Try.prog 10 #[] W fun e w' => e = .returned (.bool true) ∧ Below W.heap.size W w') := Lib.hid works7_any
  clear hX hlen hn hY hlen2 hn2
  go_enter Try.func8, Try.ntmps8
  go_wp2_with fail
  refine hnew.mono ?_
  rintro e w1 ⟨rfl, hL0, hb0, hs0⟩
  have HO : Hid (One w w1 w.heap.size w.heap.size most 0 [] none) := Lib.hid ⟨⟨0, hL0⟩, hb0, Nat.le_refl _, (fun a h => by cases h), Nat.le_refl _⟩
  clear hnew hL0 hb0 hs0
  go_wp2_with fail
  go_loopw [41] (fun sc wr => ∃ (i : Nat), i ≤ n ∧ sc = .int .i64 i ∧ Hid (∃ (m : Nat) (l : List Int) (p : Option Addr), One w wr w.heap.size w.heap.size most m l p)) (fun sc _ => n - (intOf sc).toNat)
  case atStart => exact ⟨0, Nat.zero_le _, rfl, Lib.hid ⟨0, [], none, HO.out⟩⟩
  case round =>
    obtain ⟨i, hi, rfl, HT⟩ := hrel
    clear HO
    obtain ⟨m, l, p, hT⟩ := HT.out
    by_cases hlt : i < n
    · obtain ⟨⟨k, v⟩, hx⟩ : ∃ x, xs[i]? = some x := ⟨_, List.getElem?_eq_getElem (by rw [HX.out.2.1]; omega)⟩
      obtain ⟨⟨g, o, rfl, hg, e0, e1⟩, hk, hv⟩ := HX.out.1 i _ hx
      dsimp only at e0 e1 hk hv
      have e0' := (hT.low.cell (p := ⟨g, o + i * 2, none⟩) hg).trans e0
      have e1' := (hT.low.cell (p := ⟨g, o + i * 2 + 1, none⟩) hg).trans e1
      have hmv := (hT.below ((Below.refl _ _).alloc (Nat.le_refl _) (.cells #[.int .u8 k, .int .u16 v] 51))).moved k v hv
      have hi0 : (0 : Int) ≤ (i : Int) := by omega
      have hi1 : (i : Int) < (n : Int) := by omega
      clear e0 e1 hx hT HT
      go_wp2_with fail
      refine hmv.mono ?_
      rintro e W2 ⟨rfl, p', m', l', hO2, -, -, -⟩
      have HN : Hid (∃ (m : Nat) (l : List Int) (p : Option Addr), One w W2 w.heap.size w.heap.size most m l p) := Lib.hid ⟨_, _, _, hO2⟩
      clear hmv hO2 e0' e1'
      go_wp2_with fail
      go_roundw
      case rel => exact ⟨i + 1, by omega, by go_num, HN⟩
      case measure => simp [intOf]; omega
    · obtain rfl : i = n := by omega
      have hcp := hT.copy
      clear HT hT
      go_wp2_with fail
      refine hcp.mono ?_
      rintro e W2 ⟨c, pc, rfl, HC⟩
      have hcp2 := HC.out.1.copy
      clear hcp
      go_wp2_with fail
      refine hcp2.mono ?_
      rintro e W3 ⟨d, pd, rfl, HD⟩
      have HTRI : Hid (Tri w W3 w.heap.size w.heap.size most m l p c m l pc d m l pd) := Lib.hid (by
        obtain ⟨g1, g2, g3, g4, g5, g6⟩ := HC.out
        obtain ⟨h1, h2, h3, h4, h5, h6⟩ := HD.out
        exact ⟨h1, g2.below h4, h2, g3, h3, ⟨by have := g2.lt; omega, fun a ha => by have := g2.plt a ha; omega, fun a ha => by have := h6 a ha; have := g2.lt; omega, fun a a' ha ha' => by have := g2.plt a ha; have := h6 a' ha'; omega⟩⟩)
      clear hcp2 HC HD
      go_wp2_with fail
      go_loopw [67] (fun sc wr => ∃ (i : Nat), i ≤ n2 ∧ sc = .int .i64 i ∧ Hid (∃ (mc : Nat) (lc : List Int) (pc : Option Addr), Tri w wr w.heap.size w.heap.size most m l p c mc lc pc d m l pd)) (fun sc _ => n2 - (intOf sc).toNat)
      case atStart => exact ⟨0, Nat.zero_le _, rfl, Lib.hid ⟨m, l, pc, HTRI.out⟩⟩
      case round =>
        obtain ⟨j, hj, rfl, HT⟩ := hrel
        clear HTRI
        obtain ⟨mc, lc, pc', hT⟩ := HT.out
        by_cases hlt2 : j < n2
        · obtain ⟨⟨k, v⟩, hx⟩ : ∃ x, ys[j]? = some x := ⟨_, List.getElem?_eq_getElem (by rw [HX.out.2.2.2]; omega)⟩
          obtain ⟨⟨g, o, rfl, hg, e0, e1⟩, hk, hv⟩ := HX.out.2.2.1 j _ hx
          dsimp only at e0 e1 hk hv
          have e0' := (hT.ol.low.cell (p := ⟨g, o + j * 2, none⟩) hg).trans e0
          have e1' := (hT.ol.low.cell (p := ⟨g, o + j * 2 + 1, none⟩) hg).trans e1
          have hb1 : Below wr.heap.size wr (wr.alloc (.cells #[.int .u8 k, .int .u16 v] 51)) := (Below.refl _ _).alloc (Nat.le_refl _) _
          have hmv := (hT.oc.below hb1).moved k v hv
          have HB1 := Lib.hid (hT.below hb1)
          have hi0 : (0 : Int) ≤ (j : Int) := by omega
          have hi1 : (j : Int) < (n2 : Int) := by omega
          clear e0 e1 hx hT HT hb1
          go_wp2_with fail
          refine hmv.mono ?_
          rintro e V2 ⟨rfl, p', m', l', hO2, -, ht, hh⟩
          have HN : Hid (∃ (mc : Nat) (lc : List Int) (pc : Option Addr), Tri w V2 w.heap.size w.heap.size most m l p c mc lc pc d m l pd) := Lib.hid ⟨_, _, _, HB1.out.stepC hO2 ht hh⟩
          clear hmv hO2 e0' e1' ht hh HB1
          go_wp2_with fail
          go_roundw
          case rel => exact ⟨j + 1, by omega, by go_num, HN⟩
          case measure => simp [intOf]; omega
        · obtain rfl : j = n2 := by omega
          have hel := hT.ol.elements
          have hll := hT.ol.ll
          have hln0 := hT.ol.lt
          have HT3 := Lib.hid hT
          clear HT hT
          go_wp2_with fail
          refine hel.mono ?_
          rintro e V1 ⟨qa, ca, rfl, hca, HA1, HA2, HA3, hqa0, hqa⟩
          have hT4 := HT3.out.below HA3.out
          have hel2 := hT4.od.elements
          have HT4 := Lib.hid hT4
          have HQA : Hid (∀ a, qa = some a → a.block ≠ w.heap.size ∧ a.block ≠ d ∧ a.block < V1.heap.size ∧ (∀ a', p = some a' → a.block ≠ a'.block) ∧ ∀ a', pd = some a' → a.block ≠ a'.block) := Lib.hid fun a ha => by
            obtain ⟨g1, g2, -, -⟩ := hqa a ha
            exact ⟨by have := HT3.out.ol.lt; omega, by have := HT3.out.od.lt; omega, g2, fun a' ha' => by have := HT3.out.ol.plt a' ha'; omega, fun a' ha' => by have := HT3.out.od.plt a' ha'; omega⟩
          clear hel hT4 HT3 hqa hqa0 HA1 HA3
          go_wp2_with fail
          refine hel2.mono ?_
          rintro e V2 ⟨qb, cb, rfl, hcb, HB1, HB2, HB3, hqb0, hqb⟩
          have hT5 := HT4.out.below HB3.out
          have hmk1 := hT5.ol.marked0
          have hE1 := (HA2.out.below HB3.out).same (c := ca) (d := cb) HB2.out rfl rfl (by omega) (by omega)
          have HRA : Hid (RdI V2 qa l) := Lib.hid (HA2.out.below HB3.out)
          have HT5 := Lib.hid hT5
          have HV12 : Hid (V1.heap.size ≤ V2.heap.size) := Lib.hid HB3.out.size
          clear hel2 hT5 HT4 HA2 HB1 HB2 HB3 hqb0 hqb
          go_wp2_with fail
          refine hE1.mono ?_
          rintro e V3 ⟨rfl, dr, rfl⟩
          have HT6 := Lib.hid (HT5.out.below (Below.drewN' dr (Below.refl _ _)))
          have HRA3 : Hid (RdI (V2.drewN dr) qa l) := Lib.hid (HRA.out.drewN dr)
          have HV13 : Hid (V1.heap.size ≤ (V2.drewN dr).heap.size) := HV12
          obtain ⟨V3, hV3⟩ : ∃ V3, V3 = V2.drewN dr := ⟨_, rfl⟩
          rw [← hV3] at HT6 HRA3 HV13 ⊢
          clear hE1 hmk1 HRA HT5 HV12 hV3
          have hmk1 := HT6.out.ol.marked0
          have hmk2 := HT6.out.od.marked0
          have hln2 := HT6.out.od.len0
          obtain ⟨L, hL⟩ : ∃ L, L = l.length := ⟨_, rfl⟩
          obtain ⟨n3, hn3⟩ : ∃ n3, n3 = most - l.length := ⟨_, rfl⟩
          have hsub : (most : Int) - (L : Int) = (n3 : Int) := by omega
          have hLn : L + n3 = most := by omega
          have HLL : Hid (l.length = L) := Lib.hid hL.symm
          rw [← hL] at hll hln2 hca hcb ⊢
          clear hL hn3
          go_wp2_with (first | (go_at_call 28; first | (refine hmk1.mono ?_; rintro e w' ⟨rfl, rfl⟩) | (refine hmk2.mono ?_; rintro e w' ⟨rfl, rfl⟩)) | (go_at_call 27; refine hln2.mono ?_; rintro e w' ⟨rfl, rfl⟩))
          have HT7 : Hid (∃ pd' : Option Addr, Tri w w' w.heap.size w.heap.size most m l p c mc lc pc' d m (l ++ List.replicate 0 7) pd' ∧ RdI w' qa l ∧ ∀ a, qa = some a → a.block ≠ w.heap.size ∧ a.block ≠ d ∧ a.block < w'.heap.size ∧ (∀ a', p = some a' → a.block ≠ a'.block) ∧ ∀ a', pd' = some a' → a.block ≠ a'.block) := Lib.hid ⟨pd, by rw [List.replicate_zero, List.append_nil]; exact HT6.out, HRA3.out, fun a ha => by
            obtain ⟨g1, g2, g3, g4, g5⟩ := HQA.out a ha
            have := HV13.out
            exact ⟨g1, g2, by omega, g4, g5⟩⟩
          clear HT6 HRA3 HV13 HQA hmk1 hmk2 hln2
          go_loopw [112] (fun sc wr => ∃ (i : Nat), i ≤ n3 ∧ sc = .int .i64 i ∧ Hid (∃ pd' : Option Addr, Tri w wr w.heap.size w.heap.size most m l p c mc lc pc' d m (l ++ List.replicate i 7) pd' ∧ RdI wr qa l ∧ ∀ a, qa = some a → a.block ≠ w.heap.size ∧ a.block ≠ d ∧ a.block < wr.heap.size ∧ (∀ a', p = some a' → a.block ≠ a'.block) ∧ ∀ a', pd' = some a' → a.block ≠ a'.block)) (fun sc _ => n3 - (intOf sc).toNat)
          case atStart => exact ⟨0, Nat.zero_le _, rfl, HT7⟩
          case round =>
            obtain ⟨s, hs, rfl, HS⟩ := hrel
            clear HT7
            obtain ⟨pd', hT, hR, hQ⟩ := HS.out
            by_cases hlt3 : s < n3
            · have hadd := hT.od.add (by rw [List.length_append, List.length_replicate, HLL.out]; omega) 7
              have HK := Lib.hid (And.intro hT (And.intro hR hQ))
              have hi0 : (0 : Int) ≤ (s : Int) := by omega
              have hi1 : (s : Int) < (n3 : Int) := by omega
              clear HS hT hR hQ
              go_wp2_with fail
              refine hadd.mono ?_
              rintro e V2 ⟨rfl, pd2, hO2, ht, hh⟩
              have HN : Hid (∃ pd' : Option Addr, Tri w V2 w.heap.size w.heap.size most m l p c mc lc pc' d m (l ++ List.replicate (s + 1) 7) pd' ∧ RdI V2 qa l ∧ ∀ a, qa = some a → a.block ≠ w.heap.size ∧ a.block ≠ d ∧ a.block < V2.heap.size ∧ (∀ a', p = some a' → a.block ≠ a'.block) ∧ ∀ a', pd' = some a' → a.block ≠ a'.block) := Lib.hid (by
                obtain ⟨k1, k2, k3⟩ := HK.out
                refine ⟨pd2, ?_, k2.touch ht (fun a ha => (k3 a ha).2.1) (fun a a' ha ha' => (k3 a ha).2.2.2.2 a' ha'), fun a ha => ?_⟩
                · rw [List.replicate_succ', ← List.append_assoc]
                  exact k1.stepD hO2 ht hh
                · obtain ⟨g1, g2, g3, g4, g5⟩ := k3 a ha
                  refine ⟨g1, g2, by have := ht.size; omega, g4, fun a' ha' => ?_⟩
                  rcases hh a' ha' with ⟨a0, h1, h2⟩ | h1
                  · rw [← h2]; exact g5 a0 h1
                  · omega)
              clear hadd hO2 ht hh HK
              go_wp2_with fail
              go_roundw
              case rel => exact ⟨s + 1, by omega, by go_num, HN⟩
              case measure => simp [intOf]; omega
            · obtain rfl : s = n3 := by omega
              have hlenD : (l ++ List.replicate s 7).length = most := by rw [List.length_append, List.length_replicate, HLL.out]; exact hLn
              have hadd := hT.od.addFull hlenD 7
              have HK := Lib.hid (And.intro hT (And.intro hR hQ))
              clear HS hT hR hQ
              go_wp2_with fail
              refine hadd.mono ?_
              rintro e Y1 ⟨rfl, hb1⟩
              have hT1 := HK.out.1.below hb1
              have hlen1 := hT1.ol.len0
              rw [HLL.out] at hlen1
              have hclr := hT1.ol.clear
              have HT1 := Lib.hid hT1
              have HR1 := Lib.hid (HK.out.2.1.below hb1)
              clear hadd hT1
              go_wp2_with fail
              refine hlen1.mono ?_
              rintro e Y2 ⟨rfl, rfl⟩
              go_wp2_with fail
              refine hclr.mono ?_
              rintro e Y3 ⟨⟨v, rfl⟩, hO3, ht3⟩
              have hT3 := HT1.out.stepL hO3 ht3 (fun a h => by cases h)
              have hR3 := HR1.out.touch ht3 (fun a ha => (HK.out.2.2 a ha).1) (fun a a' ha ha' => (HK.out.2.2 a ha).2.2.2.1 a' ha')
              have hel3 := hT3.od.elements
              rw [hlenD] at hel3
              have HT3 := Lib.hid hT3
              have HR3 := Lib.hid hR3
              clear hclr hlen1 hT3 hR3 hO3 ht3 HK HT1 HR1 hb1
              go_wp2_with fail
              refine hel3.mono ?_
              rintro e Y4 ⟨qe, ce, rfl, hce, -, HE2, HE3, -, -⟩
              have hLm : L ≤ ce := by omega
              have hE3 := ((HE2.out.take L)).same (c := ce) (d := ca) (by
                have := HR3.out.below HE3.out
                rw [List.take_append_of_le_length (by rw [HLL.out]; exact Nat.le_refl _), List.take_of_length_le (by rw [HLL.out]; exact Nat.le_refl _)]
                exact this) (n := L) (m := L) (by rw [List.length_take, hlenD]; omega) (by rw [List.length_take, hlenD]; omega) (by omega) (by omega)
              have HLOW : Hid (Below w.heap.size w Y4) := Lib.hid (HT3.out.od.below HE3.out).low
              clear hel3 HE2 HE3 HT3 HR3
              go_wp2_with fail
              refine hE3.mono ?_
              rintro e Y5 ⟨rfl, q5, rfl⟩
              go_wp2_with fail
              refine (HW.out _).mono ?_
              rintro e Y6 ⟨rfl, hb9⟩
              have HLOW5 := HLOW.out.trans ((Below.drewN' q5 (Below.refl w.heap.size Y4)).trans (hb9.mono (by have := HLOW.out.size; exact this)))
              clear HLOW hE3 hb9
              go_wp2_with fail
              go_ret
              exact ⟨rfl, HLOW5⟩
end Go.Proofs.Ytahccgbmbnmcgaa
