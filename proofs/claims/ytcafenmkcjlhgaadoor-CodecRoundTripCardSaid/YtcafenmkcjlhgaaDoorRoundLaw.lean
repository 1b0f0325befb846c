/- CodecRoundTrip: the walk. -/
import Derived.Test.YtcafenmkcjlhgaaDoorRound1
import Derived.Test.YtcafenmkcjlhgaaDoorBytesLaw
import Derived.Test.YtcafenmkcjlhgaaDoorFrame
import Derived.Test.YtcafenmkcjlhgaaDoorApi2
import Derived.Deep.QuietTactic
import Derived.BigQuiet
namespace Go.Proofs.YtcafenmkcjlhgaaDoor
open Go Go.RowKit

theorem Tryd.info3u : (Tryd.prog.info? 3).map (fun i => (i.zero, i.size, i.bytes)) = some (some (.int .i64 0), 1, 8) := by kernel_rfl

set_option maxHeartbeats 3200000 in
set_option maxRecDepth 100000 in
theorem round_sl (p q : Option Addr) (len cap L cl kb kl : Nat) (l zs : List Int) (b : Nat) (w : World) (h : Laid w) (hS : Sl w p len cap l) (hmb : min ((len : Nat) : Int) 300 = (kb : Int)) (hml : min ((L : Nat) : Int) 50 = (kl : Int))
    (hq : L ≤ cl) (hu : ∀ i, i < L → ∃ x, q = some x ∧ w.cell? (x.add i) = some (.int .u64 (zs.getD i 0)) ∧ 0 ≤ zs.getD i 0 ∧ zs.getD i 0 ≤ 18446744073709551615) (hb : b < 256) :
    Calls Tryd.prog 6 #[.slice p len cap, .slice q L cl, .int .u8 b] w fun e w' => e = .returned (.bool true) ∧ Below w.heap.size w w' := by
  have hk : kb ≤ len ∧ kb ≤ 300 := by omega
  have hkl : kl ≤ L ∧ kl ≤ 50 := by omega
  have hlc := hS.cap
  have hS2 := hS.take kb hk.1
  have HL := Lib.hid h
  have HS := Lib.hid hS2
  have HU := Lib.hid hu
  obtain ⟨hk1, hk2⟩ := hk
  obtain ⟨hkl1, hkl2⟩ := hkl
  generalize l.take kb = B at *
  clear h hS hS2 hu
  have hl1 : (len : Int) ≤ (cap : Int) := by omega
  have hl2 : (L : Int) ≤ (cl : Int) := by omega
  have hl3 : (kb : Int) ≤ (cap : Int) := by omega
  have hl4 : (kl : Int) ≤ (cl : Int) := by omega
  go_enter Tryd.func6, Tryd.ntmps6
  go_wp2_with fail
  go_quiet (fail)
  rename_i nq
  have HB0 : Hid (Below w.heap.size w (w.drewN nq)) := below_drewN (Below.refl _ _) nq
  generalize w.drewN nq = w0 at *
  have HS0 := Lib.hid (HS.out.below HB0.out)
  have HL0 := Lib.hid (HL.out.below HB0.out)
  go_wp2_with fail
  refine (Clone_c _ HS0.out (by omega)).mono ?_
  rintro e w1 ⟨pg, ng, cg, rfl, hsg, hb1⟩
  have HG := Lib.hid hsg
  have HS1 := Lib.hid (HS0.out.below hb1)
  have HL1 := Lib.hid (HL0.out.below hb1)
  have HB1 := Lib.hid (HB0.out.trans (hb1.mono HB0.out.size))
  clear hsg hb1 HS0 HL0 HL HS
  have hU1 : ∀ i, i < L → ∃ x, q = some x ∧ w1.cell? (x.add i) = some (.int .u64 (zs.getD i 0)) ∧ 0 ≤ zs.getD i 0 ∧ zs.getD i 0 ≤ 18446744073709551615 := by
    intro i hi
    obtain ⟨x, hx, hc, hr⟩ := HU.out i hi
    exact ⟨x, hx, (HB1.out.cell (World.block_lt_of_cell? w _ hc)).trans hc, hr⟩
  have HU1 := Lib.hid hU1
  clear hU1 HU
  go_wp2_with fail
  obtain ⟨i0, hi, hi0, hi1, hi2⟩ := info_parts Tryd.info3u
  go_loopw [8, 9, 10, 11, 40] (fun vx va vo vu i wr => ∃ (k : Nat) (X : List Int) (os ws : List Nat) (p2 : Option Addr) (n2 c2 : Nat), k ≤ kl ∧ i = .int .i64 k ∧ vx = .slice p2 n2 c2 ∧ va = .int .i64 n2 ∧ Hid (RW w1 wr B X zs os ws k vo vu p2 n2 c2))
    (fun _ _ _ _ i _ => kl - (intOf i).toNat)
  case atStart => exact ⟨0, B, [], [], p, kb, cap, Nat.zero_le _, rfl, rfl, rfl, RW.zero HS1.out⟩
  case round =>
    obtain ⟨k, X, os, ws, p2, n2, c2, hk, rfl, rfl, rfl, HR⟩ := hrel
    have hn2 : n2 ≤ 700 := by
      have h1 := HR.out.sl.len
      have h2 := HR.out.rt.len
      have h3 := HS1.out.len
      omega
    by_cases hlt : k < kl
    · obtain ⟨x, rfl, hcz, hz0, hz1⟩ := HU1.out k (by omega)
      have hcell : wr.cell? (x.add k) = some (.int .u64 (zs.getD k 0)) := (HR.out.below.cell (World.block_lt_of_cell? _ _ hcz)).trans hcz
      obtain ⟨z, hz⟩ : ∃ z, z = zs.getD k 0 := ⟨_, rfl⟩
      rw [← hz] at hcell hz0 hz1
      have HZ := Lib.hid hz
      obtain ⟨qf, hq3, hqf, hqn⟩ := first_fit z hz0 hz1 wAt rfl
      have H8 := Lib.hid (fits_eight hz0 hz1)
      have HZ0 := Lib.hid hz0
      have HQf := Lib.hid hqf
      have HQn := Lib.hid hqn
      have hb2 : Below wr.heap.size wr (wr.alloc (.cells #[.int .i64 1, .int .i64 2, .int .i64 4, .int .i64 8] 3)) := (Below.refl _ _).alloc (Nat.le_refl _) _
      have HC2 : Hid (∀ k, k < 4 → (wr.alloc (.cells #[.int .i64 1, .int .i64 2, .int .i64 4, .int .i64 8] 3)).cell? ⟨wr.heap.size, k, none⟩ = some (.int .i64 (wAt k : Nat))) := by
        intro k hk
        rw [World.cell?_alloc_new]
        have : k = 0 ∨ k = 1 ∨ k = 2 ∨ k = 3 := by omega
        rcases this with rfl | rfl | rfl | rfl <;> rfl
      have HWid := Lib.hid (widths_any wr)
      obtain ⟨W2, hW2⟩ : ∃ W2, W2 = wr.alloc (.cells #[.int .i64 1, .int .i64 2, .int .i64 4, .int .i64 8] 3) := ⟨_, rfl⟩
      have HB2 := Lib.hid hb2
      rw [← hW2] at HB2 HC2
      have HW2 := Lib.hid hW2
      have HL2 := Lib.hid ((HL1.out.below HR.out.below).below HB2.out)
      have HS2 := Lib.hid (HR.out.sl.below HB2.out)
      clear hb2 hW2 hqf hqn hcz hz hz0 hz1
      go_wp2_with (go_at_call 26; refine HWid.out.mono ?_; rw [← HW2.out]; rintro e w' ⟨rfl, rfl⟩)
      go_loop [47] (fun i => ∃ j : Nat, j ≤ qf ∧ i = .int .i64 j) (fun i => qf - (intOf i).toNat)
      case atStart => exact ⟨0, Nat.zero_le _, rfl⟩
      case round =>
        obtain ⟨j, hj, rfl⟩ := hrel
        have hcj := HC2.out j (by omega)
        have hj4 : j < 4 := by omega
        by_cases hjq : j < qf
        · have HFj := Lib.hid (HQn.out j hjq)
          generalize wAt j = m at *
          go_wp2_with fail
          refine (Fits_any z m _ HL2.out.wt).mono ?_
          rw [HFj.out]
          rintro e w3 ⟨rfl, rfl⟩
          go_wp2_with fail
          go_round
          case rel => exact ⟨j + 1, by omega, by go_num⟩
          case measure => simp [intOf]; omega
        · have hje : j = qf := by omega
          subst hje
          have HW := Lib.hid (wAt_isW j)
          generalize wAt j = m at *
          go_wp2_with fail
          refine (Fits_any z m _ HL2.out.wt).mono ?_
          rw [HQf.out]
          rintro e w3 ⟨rfl, rfl⟩
          go_wp2_with fail
          · have HM := Lib.hid (show isW (((8) : Nat) : Int) = true from by decide)
            have HF := Lib.hid (show fitsI z (((8) : Nat) : Int) = true from H8.out)
            have hm8 : 8 ≤ 8 := by rcases isW_cases HM.out with h | h | h | h <;> omega
            have hm1 : 1 ≤ 8 := by rcases isW_cases HM.out with h | h | h | h <;> omega
            refine (Append_d z (8) _ HL2.out HM.out HF.out HS2.out (by omega)).mono ?_
            rintro e w3 ⟨rfl, hs3, hb3, h23⟩
            have HS3 := Lib.hid hs3
            have HB3 := Lib.hid hb3
            have H23 := Lib.hid h23
            have HBel := Lib.hid (HB2.out.trans (hb3.mono HB2.out.size))
            have hsz3 : w1.heap.size ≤ w3.heap.size := Nat.le_trans HR.out.below.size HBel.out.size
            have HSo := Lib.hid (HS2.out.below hb3)
            have HTk := Lib.hid (show (X ++ le z (8)).take n2 = X from List.take_left' HR.out.sl.len)
            clear hs3 hb3 h23 hcj
            go_wp2_with fail
            refine (Equal_yes _ (HS3.out.take n2 (by omega)) HSo.out HTk.out).mono ?_
            rintro e w4 ⟨rfl, rfl⟩
            have hownO := HR.out.row_o HBel.out
            go_wp2_with (first
              | (at_builtin; refine wpList_append_two rfl _ _ 41 rfl w1.heap.size 3 i0 (.int .i64 0) 1 8 Tryd.underlying41 hi hi0 hi1 hi2 rfl (by decide) _ _ _ rfl ((HR.out.row_u HBel.out hgA).alloc _) ⟨wa.heap.size, 0, none⟩ 1 1 [.int .i64 (((8) : Nat) : Int)] rfl rfl (by intro t u ht; match t, ht with | 0, ht => simp at ht; subst ht; simp [Addr.add]) (by intro u hu; simp at hu; subst hu; rfl) (by unfold maxLen; omega) (by omega) (by have := hgA.size; simp at this ⊢; omega) ?_; intro v2 wb hoB hgB hbB)
              | (at_builtin; refine wpList_append_two rfl _ _ 41 rfl w1.heap.size 3 i0 (.int .i64 0) 1 8 Tryd.underlying41 hi hi0 hi1 hi2 rfl (by decide) _ _ _ rfl (hownO.alloc _) ⟨w3.heap.size, 0, none⟩ 1 1 [.int .i64 (n2 : Int)] rfl rfl (by intro t u ht; match t, ht with | 0, ht => simp at ht; subst ht; simp [Addr.add]) (by intro u hu; simp at hu; subst hu; rfl) (by unfold maxLen; omega) (by omega) (by simp; omega) ?_; intro v1 wa hoA hgA hbA))
            have HOA := Lib.hid hoA
            have HGA := Lib.hid hgA
            have HBA := Lib.hid hbA
            have HOB := Lib.hid hoB
            have HGB := Lib.hid hgB
            have HBB := Lib.hid hbB
            clear hoB hgB hbB hoA hgA hbA hownO
            go_wp2
            go_roundw
            case rel => exact ⟨k + 1, X ++ le z (8), os ++ [n2], ws ++ [8], _, n2 + 8, n2 + 8, by omega, by go_num, rfl, by go_num, by
              have e := HZ.out
              subst e
              exact HR.out.step HM.out HF.out HZ0.out HB2.out HB3.out H23.out HS3.out HOA.out HGA.out HBA.out HOB.out HGB.out HBB.out⟩
            case measure => simp [intOf]; omega
          · have HM := Lib.hid (show isW (((m) : Nat) : Int) = true from HW.out)
            have HF := Lib.hid (show fitsI z (((m) : Nat) : Int) = true from HQf.out)
            have hm8 : m ≤ 8 := by rcases isW_cases HM.out with h | h | h | h <;> omega
            have hm1 : 1 ≤ m := by rcases isW_cases HM.out with h | h | h | h <;> omega
            refine (Append_d z (m) _ HL2.out HM.out HF.out HS2.out (by omega)).mono ?_
            rintro e w3 ⟨rfl, hs3, hb3, h23⟩
            have HS3 := Lib.hid hs3
            have HB3 := Lib.hid hb3
            have H23 := Lib.hid h23
            have HBel := Lib.hid (HB2.out.trans (hb3.mono HB2.out.size))
            have hsz3 : w1.heap.size ≤ w3.heap.size := Nat.le_trans HR.out.below.size HBel.out.size
            have HSo := Lib.hid (HS2.out.below hb3)
            have HTk := Lib.hid (show (X ++ le z (m)).take n2 = X from List.take_left' HR.out.sl.len)
            clear hs3 hb3 h23 hcj
            go_wp2_with fail
            refine (Equal_yes _ (HS3.out.take n2 (by omega)) HSo.out HTk.out).mono ?_
            rintro e w4 ⟨rfl, rfl⟩
            have hownO := HR.out.row_o HBel.out
            go_wp2_with (first
              | (at_builtin; refine wpList_append_two rfl _ _ 41 rfl w1.heap.size 3 i0 (.int .i64 0) 1 8 Tryd.underlying41 hi hi0 hi1 hi2 rfl (by decide) _ _ _ rfl ((HR.out.row_u HBel.out hgA).alloc _) ⟨wa.heap.size, 0, none⟩ 1 1 [.int .i64 (((m) : Nat) : Int)] rfl rfl (by intro t u ht; match t, ht with | 0, ht => simp at ht; subst ht; simp [Addr.add]) (by intro u hu; simp at hu; subst hu; rfl) (by unfold maxLen; omega) (by omega) (by have := hgA.size; simp at this ⊢; omega) ?_; intro v2 wb hoB hgB hbB)
              | (at_builtin; refine wpList_append_two rfl _ _ 41 rfl w1.heap.size 3 i0 (.int .i64 0) 1 8 Tryd.underlying41 hi hi0 hi1 hi2 rfl (by decide) _ _ _ rfl (hownO.alloc _) ⟨w3.heap.size, 0, none⟩ 1 1 [.int .i64 (n2 : Int)] rfl rfl (by intro t u ht; match t, ht with | 0, ht => simp at ht; subst ht; simp [Addr.add]) (by intro u hu; simp at hu; subst hu; rfl) (by unfold maxLen; omega) (by omega) (by simp; omega) ?_; intro v1 wa hoA hgA hbA))
            have HOA := Lib.hid hoA
            have HGA := Lib.hid hgA
            have HBA := Lib.hid hbA
            have HOB := Lib.hid hoB
            have HGB := Lib.hid hgB
            have HBB := Lib.hid hbB
            clear hoB hgB hbB hoA hgA hbA hownO
            go_wp2
            go_roundw
            case rel => exact ⟨k + 1, X ++ le z (m), os ++ [n2], ws ++ [m], _, n2 + m, n2 + m, by omega, by go_num, rfl, by go_num, by
              have e := HZ.out
              subst e
              exact HR.out.step HM.out HF.out HZ0.out HB2.out HB3.out H23.out HS3.out HOA.out HGA.out HBA.out HOB.out HGB.out HBB.out⟩
            case measure => simp [intOf]; omega
    · have hkl : k = kl := by omega
      subst hkl
      obtain ⟨po, co, rfl, hco, hlo, hgo⟩ := row_ints HR.out.o
      obtain ⟨pu, cu, rfl, hcu, hlu, hgu⟩ := row_ints HR.out.u
      have HGo := Lib.hid hgo
      have HGu := Lib.hid hgu
      have HLr := Lib.hid (HL1.out.below HR.out.below)
      have HBr := Lib.hid (HB1.out.trans (HR.out.below.mono HB1.out.size))
      have HSr := Lib.hid (HS1.out.below HR.out.below)
      have HGr := Lib.hid (HG.out.below HR.out.below)
      clear hgo hgu hlo hlu
      obtain ⟨w5, rfl⟩ : ∃ w5, w5 = wr := ⟨_, rfl⟩
      go_wp2_with fail
      go_loopw [103] (fun i wr => ∃ j : Nat, j ≤ k ∧ i = .int .i64 j ∧ Hid (Below w5.heap.size w5 wr)) (fun i _ => k - (intOf i).toNat)
      case atStart => exact ⟨0, Nat.zero_le _, rfl, Below.refl _ _⟩
      case round =>
        obtain ⟨j, hj, rfl, HX⟩ := hrel
        by_cases hlt2 : j < k
        · obtain ⟨x, rfl, hcz, hz0, hz1⟩ := HU1.out j (by omega)
          have hcell : wr.cell? (x.add j) = some (.int .u64 (zs.getD j 0)) := by
            have h1 := (HR.out.below.cell (World.block_lt_of_cell? _ _ hcz)).trans hcz
            exact (HX.out.cell (World.block_lt_of_cell? _ _ h1)).trans h1
          obtain ⟨go, rfl, hcgo⟩ := HGo.out (by omega)
          obtain ⟨gu, rfl, hcgu⟩ := HGu.out (by omega)
          have hco1 := hcgo j hlt2
          have hcu1 := hcgu j hlt2
          have hco2 : wr.cell? ⟨go, j, none⟩ = some (.int .i64 (os.getD j 0 : Nat)) := (HX.out.cell (World.block_lt_of_cell? _ _ hco1)).trans hco1
          have hcu2 : wr.cell? ⟨gu, j, none⟩ = some (.int .i64 (ws.getD j 0 : Nat)) := (HX.out.cell (World.block_lt_of_cell? _ _ hcu1)).trans hcu1
          obtain ⟨hgw, hgl, hgv⟩ := HR.out.rt.got j hlt2
          rw [HR.out.sl.len] at hgl
          have HUq : Hid (∀ n, Calls Tryd.prog 12 #[.slice p2 n2 c2, .int .i64 (os.getD j 0 : Nat), .int .i64 (ws.getD j 0 : Nat)] (wr.drewN n) fun e w' => e = .returned (.tuple #[.int .u64 (zs.getD j 0), .int .i64 0]) ∧ w' = wr.drewN n) := by
            intro n
            have hbn : Below w5.heap.size w5 (wr.drewN n) := below_drewN HX.out n
            refine (Uint_c _ _ _ _ (HLr.out.below hbn) hgw (HR.out.sl.below hbn) (by unfold maxLen; omega) hgl hgv).mono ?_
            rintro e w' ⟨rfl, rfl⟩
            exact ⟨rfl, rfl⟩
          generalize zs.getD j 0 = z at *
          generalize os.getD j 0 = oj at *
          generalize ws.getD j 0 = wj at *
          clear hcz hco1 hcu1 hcgo hcgu hgw hgl hgv hz0 hz1
          go_wp2_with fail
          go_quiet ((go_at_call 12; exact Calls.quiet_of_same (HUq.out _)))
          have HX2 : Hid (Below w5.heap.size w5 (wr.drewN nq)) := below_drewN HX.out nq
          clear hcell hco2 hcu2 HUq HX
          generalize wr.drewN nq = wy at *
          go_wp2_with fail
          go_roundw
          case rel => exact ⟨j + 1, by omega, by go_num, HX2⟩
          case measure => simp [intOf]; omega
        · have hn2 : kb ≤ n2 := by
            have h1 := HR.out.rt.pre.length_le
            have h2 := HR.out.sl.len
            have h3 := HSr.out.len
            omega
          have htk : X.take kb = B := by
            have h1 := List.prefix_iff_eq_take.1 HR.out.rt.pre
            rw [HSr.out.len] at h1
            exact h1.symm
          have hc2 := HR.out.sl.cap
          have HSx := Lib.hid (HSr.out.below HX.out)
          have HGx := Lib.hid (HGr.out.below HX.out)
          have HOx := Lib.hid ((HR.out.sl.take kb hn2).below HX.out)
          have HLx := Lib.hid (HLr.out.below HX.out)
          have HBx := Lib.hid (HBr.out.trans (HX.out.mono HBr.out.size))
          have HTk := Lib.hid htk
          clear htk
          go_wp2_with fail
          refine (Equal_yes _ HSx.out HGx.out rfl).mono ?_
          rintro e w6 ⟨rfl, rfl⟩
          go_wp2_with fail
          refine (Equal_yes _ HOx.out HGx.out HTk.out).mono ?_
          rintro e w6 ⟨rfl, rfl⟩
          go_wp2_with fail
          refine (works_any _ HLx.out).mono ?_
          rintro e w6 ⟨rfl, hb6⟩
          go_wp2_with fail
          go_ret
          exact ⟨rfl, HBx.out.trans (hb6.mono HBx.out.size)⟩

theorem round_law (a : Option Addr) (len cap : Nat) (bs : List Int) (q : Option Addr) (L cl : Nat) (zs : List Int) (n : Int) (w : World) (h : Laid w) (w0 : IsRow .u8 w a len cap bs) (w1 : IsRow .u64 w q L cl zs) (w2 : (Lit.int .u8 n).wf = true) :
    Calls Tryd.prog 6 #[.slice a len cap, .slice q L cl, .int .u8 n] w fun e w' => e = .returned (.bool true) ∧ Below w.heap.size w w' := by
  have hn := bounds_u8 w2
  obtain ⟨b, rfl⟩ := Int.eq_ofNat_of_zero_le hn.1
  have hS := isRow_sl w0
  rcases w1 with ⟨rfl, rfl, rfl, rfl⟩ | ⟨x, rfl, hl, hm, hz, hc, hw⟩
  · exact round_sl a none len cap 0 0 (min len 300) 0 _ [] b w h hS.1 (by omega) (by omega) (Nat.le_refl _) (fun i hi => by omega) (by omega)
  · refine round_sl a (some x) len cap L cl (min len 300) (min L 50) _ zs b w h hS.1 (by omega) (by omega) hl (fun i hi => ?_) (by omega)
    have hi2 : i < zs.length := by omega
    have hb := bounds_u64 (hw (zs.getD i 0) (by simp only [List.getD_eq_getElem?_getD, List.getElem?_eq_getElem hi2, Option.getD_some]; exact List.getElem_mem _))
    exact ⟨x, rfl, hc i hi2, hb.1, hb.2⟩
end Go.Proofs.YtcafenmkcjlhgaaDoor
