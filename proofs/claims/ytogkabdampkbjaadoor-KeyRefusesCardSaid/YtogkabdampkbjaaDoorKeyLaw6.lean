/- KeyRefuses: the walk, over the contracts of package key. -/
import Derived.Test.YtogkabdampkbjaaDoorKeyLaw3
namespace Go.Proofs.YtogkabdampkbjaaDoor
open Go Go.RowKit

def tri (a b c : Int) (i : Nat) : Int := if i = 0 then a else if i = 1 then b else c

theorem three_cells (w : World) (a b c : Int) (t : TypeId) : ∀ i, i < 3 → (w.alloc (.cells #[.int .i64 a, .int .i64 b, .int .i64 c] t)).cell? ⟨w.heap.size, i, none⟩ = some (.int .i64 (tri a b c i)) := by
  intro i hi
  rw [World.cell?_alloc_new]
  rcases i with _ | _ | _ | i
  · rfl
  · rfl
  · rfl
  · omega

/-- What stands throughout: the variables, the old memory, the three numbers. -/
structure RefG (L : World → Prop) (w : World) (b : Nat) (f : Nat → Int) (x : World) : Prop where
  L : L x
  B : Below w.heap.size w x
  c : ∀ i, i < 3 → x.cell? ⟨b, i, none⟩ = some (.int .i64 (f i))

theorem RefG.step {L : World → Prop} {w : World} {b : Nat} {f : Nat → Int} {x y : World} (h : RefG L w b f x) (hl : L y) (hb : Below x.heap.size x y) : RefG L w b f y :=
  ⟨hl, below_then5 h.B hb, fun i hi => (hb.cell (p := ⟨b, i, none⟩) (World.block_lt_of_cell? x _ (h.c i hi))).trans (h.c i hi)⟩

theorem kFits_out (l : List Int) (n : Int) (h : n < 1 ∨ 32 < n) : kFits l n = 2 := if_pos h
theorem kName_out (n : Int) (h : n < 0 ∨ 999999 < n) : kName n = (⟨#[]⟩, 3) := if_pos h

theorem numS_repA (c : Nat) : numS (repS ⟨#[97]⟩ c) = List.replicate c 97 := by
  have h := Lib.repeatL_replicate 97 1 c
  rw [Nat.mul_one] at h
  show (Lib.repeatL (List.replicate 1 97) c).map _ = _
  rw [h, List.map_replicate]
  rfl

theorem check_longA (c : Nat) (h : 32 < c) : kCheck (List.replicate c 97) = 12 := by
  unfold kCheck
  rw [if_neg (by intro e; have := congrArg List.length e; simp at this; omega), if_neg, if_pos (by rw [List.length_replicate]; exact h)]
  rw [Bool.not_eq_false, List.all_eq_true]
  intro x hx
  rw [List.eq_of_mem_replicate hx]
  rfl

theorem check_longB (c : Nat) : kCheck (List.replicate c 97 ++ [65]) = 2 := by
  unfold kCheck
  rw [if_neg (by simp), if_pos]
  rw [List.all_append]
  show (_ && false) = false
  rw [Bool.and_false]

theorem kNext_bad (l : List Int) (h : kCheck l ≠ 0) : kNext l = none := by
  unfold kNext
  rw [if_pos h]

theorem kNextS_bad (s : ByteArray) (h : kCheck (numS s) ≠ 0) : kNextS s = (⟨#[]⟩, false) := by
  unfold kNextS
  rw [kNext_bad _ h]

set_option maxHeartbeats 3200000 in
set_option maxRecDepth 100000 in
theorem keyRefuses_any {L : World → Prop} (H : KeyOk L) (m : Nat) (s : ByteArray) (w : World) (h : L w) (hm : m < 65536) (hs : s.size ≤ maxLen) :
    Calls Tryd.prog 10 #[.int .u16 m, .string s] w fun e w' => e = .returned (.bool true) ∧ Below w.heap.size w w' := by
  have HL0 := Lib.hid h
  have HB0 := Lib.hid (Below.refl w.heap.size w)
  have HH := Lib.hid H
  obtain ⟨a40, h40⟩ : ∃ a, a = repS ⟨#[97]⟩ 40 := ⟨_, rfl⟩
  have hs40 : a40.size = 40 := by rw [h40]; decide +kernel
  have H40 := Lib.hid h40.symm
  clear h H h40
  unfold maxLen at hs
  go_enter Tryd.func10, Tryd.ntmps10
  go_wp2_with fail
  have hc := three_cells w (-(m : Int)) (33 + m) (-9223372036854775808) 3
  have hb := (Below.refl w.heap.size w).alloc (Nat.le_refl _) (.cells #[.int .i64 (-(m : Int)), .int .i64 (33 + m), .int .i64 (-9223372036854775808)] 3)
  have hf : ∀ i, i < 3 → -9223372036854775808 ≤ tri (-(m : Int)) (33 + m) (-9223372036854775808) i ∧ tri (-(m : Int)) (33 + m) (-9223372036854775808) i ≤ 9223372036854775807 ∧ (tri (-(m : Int)) (33 + m) (-9223372036854775808) i < 1 ∨ 32 < tri (-(m : Int)) (33 + m) (-9223372036854775808) i) := by
    intro i hi
    unfold tri
    split
    · omega
    · split <;> omega
  generalize tri (-(m : Int)) (33 + m) (-9223372036854775808) = f at *
  have hl := HH.out.below w _ HL0.out hb
  generalize w.alloc (.cells #[.int .i64 (-(m : Int)), .int .i64 (33 + m), .int .i64 (-9223372036854775808)] 3) = w1 at *
  have HG1 : Hid (RefG L w w.heap.size f w1) := ⟨hl, hb, hc⟩
  have HF := Lib.hid hf
  clear hc hb hl hf HL0 HB0
  go_loopw [25] (fun i wr => ∃ k : Nat, k ≤ 3 ∧ i = .int .i64 k ∧ Hid (RefG L w w.heap.size f wr)) (fun i _ => 3 - (intOf i).toNat)
  case atStart => exact ⟨0, by omega, rfl, HG1⟩
  case round =>
    obtain ⟨k, hk, rfl, HG0⟩ := hrel
    clear HG1
    by_cases hlt : k < 3
    · have hcell := HG0.out.c k hlt
      obtain ⟨h0, h1, h2⟩ := HF.out k hlt
      generalize f k = n at *
      have hk1 := kFits_out (numS ⟨#[]⟩) n h2
      have hk2 := kFits_out (numS a40) n h2
      have HK1 := Lib.hid hk1
      have HK2 := Lib.hid hk2
      clear hk1 hk2 h2
      go_wp2_with fail
      refine (HH.out.fitsv 2 (by decide) h0 h1 HG0.out.L HK1.out).mono ?_
      rintro e x1 ⟨rfl, hl, hb⟩
      have HG1 := Lib.hid (HG0.out.step hl hb)
      clear hl hb HG0
      go_wp2_with fail
      refine (HH.out.repv 40 a40 rfl (by decide) (by decide) HG1.out.L H40.out).mono ?_
      rintro e x2 ⟨rfl, hl, hb⟩
      have HG2 := Lib.hid (HG1.out.step hl hb)
      clear hl hb HG1
      go_wp2_with fail
      refine (HH.out.fitsv 2 (by omega) h0 h1 HG2.out.L HK2.out).mono ?_
      rintro e x3 ⟨rfl, hl, hb⟩
      have HG3 := Lib.hid (HG2.out.step hl hb)
      clear hl hb HG2
      go_wp2_with fail
      go_roundw
      case rel => exact ⟨k + 1, by omega, by go_num, HG3⟩
      case measure => simp [intOf]; omega
    · have hk3 : k = 3 := by omega
      subst hk3
      rw [show ((3 : Nat) : Int) = 3 from rfl]
      clear hk hlt
      go_wp2_with fail
      obtain ⟨w2, rfl⟩ : ∃ w2, w2 = wr := ⟨_, rfl⟩
      have hc := three_cells w2 (-1 - (m : Int)) (1000000 + m) 9223372036854775807 3
      have hb := HG0.out.B.alloc HG0.out.B.size (.cells #[.int .i64 (-1 - (m : Int)), .int .i64 (1000000 + m), .int .i64 9223372036854775807] 3)
      have hbl := (Below.refl w2.heap.size w2).alloc (Nat.le_refl _) (.cells #[.int .i64 (-1 - (m : Int)), .int .i64 (1000000 + m), .int .i64 9223372036854775807] 3)
      have hf : ∀ i, i < 3 → -9223372036854775808 ≤ tri (-1 - (m : Int)) (1000000 + m) 9223372036854775807 i ∧ tri (-1 - (m : Int)) (1000000 + m) 9223372036854775807 i ≤ 9223372036854775807 ∧ (tri (-1 - (m : Int)) (1000000 + m) 9223372036854775807 i < 0 ∨ 999999 < tri (-1 - (m : Int)) (1000000 + m) 9223372036854775807 i) := by
        intro i hi
        unfold tri
        split
        · omega
        · split <;> omega
      generalize tri (-1 - (m : Int)) (1000000 + m) 9223372036854775807 = g at *
      have hl := HH.out.below w2 _ HG0.out.L hbl
      generalize w2.alloc (.cells #[.int .i64 (-1 - (m : Int)), .int .i64 (1000000 + m), .int .i64 9223372036854775807] 3) = w3 at *
      generalize w2.heap.size = bk at *
      have HG1 : Hid (RefG L w bk g w3) := ⟨hl, hb, hc⟩
      have HF2 := Lib.hid hf
      clear hc hb hbl hl hf HG0 HF
      go_loopw [45] (fun i wr => ∃ k : Nat, k ≤ 3 ∧ i = .int .i64 k ∧ Hid (RefG L w bk g wr)) (fun i _ => 3 - (intOf i).toNat)
      case atStart => exact ⟨0, by omega, rfl, HG1⟩
      case round =>
        obtain ⟨k, hk, rfl, HG0⟩ := hrel
        clear HG1
        by_cases hlt : k < 3
        · have hcell := HG0.out.c k hlt
          obtain ⟨h0, h1, h2⟩ := HF2.out k hlt
          generalize g k = n at *
          have HK1 := Lib.hid (kName_out n h2)
          clear h2
          go_wp2_with fail
          refine (HH.out.namev ⟨#[]⟩ 3 h0 h1 HG0.out.L HK1.out).mono ?_
          rintro e x1 ⟨rfl, hl, hb⟩
          have HG1 := Lib.hid (HG0.out.step hl hb)
          clear hl hb HG0
          go_wp2_with fail
          go_roundw
          case rel => exact ⟨k + 1, by omega, by go_num, HG1⟩
          case measure => simp [intOf]; omega
        · have hk3 : k = 3 := by omega
          subst hk3
          clear hk hlt
          obtain ⟨w10, rfl⟩ : ∃ w10, w10 = wr := ⟨_, rfl⟩
          have HL10 := Lib.hid HG0.out.L
          have HB10 := Lib.hid HG0.out.B
          clear HG0 HF2
          by_cases hbig : 300 < s.size
          · have hbigI : (300 : Int) < s.size := by omega
            go_wp2_with fail
            refine (works5_any HH.out _ HL10.out).mono ?_
            rintro e wz ⟨rfl, hb⟩
            go_wp2_with fail
            go_ret
            exact ⟨rfl, below_then5 HB10.out hb⟩
          · have hbigI : ¬ (300 : Int) < s.size := by omega
            clear hs
            obtain ⟨q, hq⟩ : ∃ q : Nat, (m : Int) % 100 = (q : Int) := ⟨m % 100, by omega⟩
            have hq2 : (m : Int).tmod 100 = (q : Int) := by rw [Int.tmod_eq_emod_of_nonneg (by omega)]; exact hq
            have hq100 : q < 100 := by omega
            obtain ⟨c, hc⟩ : ∃ c, c = 33 + q := ⟨_, rfl⟩
            have hcz : (33 : Int) + (q : Int) = (c : Int) := by omega
            clear hc
            obtain ⟨lg, hlg⟩ : ∃ lg, lg = repS ⟨#[97]⟩ c := ⟨_, rfl⟩
            have hln := numS_repA c
            rw [← hlg] at hln
            have hls : lg.size = c := by rw [← numS_length, hln, List.length_replicate]
            have hcl := check_longA c (by omega)
            have hcm := check_longB c
            rw [← hln] at hcl hcm
            have hcm2 : kCheck (numS (lg ++ ⟨#[65]⟩)) = 2 := by rw [numS_append]; exact hcm
            have HNl := Lib.hid (kNextS_bad lg (by rw [hcl]; decide))
            have HCl := Lib.hid hcl
            have HCm := Lib.hid hcm2
            have HLg := Lib.hid hlg.symm
            have hcle : c ≤ 132 := by omega
            rw [← hls] at hcle
            clear hlg hln hcl hcm hcm2
            obtain ⟨z32, hz⟩ : ∃ z, z = repS ⟨#[122]⟩ 32 := ⟨_, rfl⟩
            have hsz := str_beq s z32
            have hnz := numS_z32
            rw [← hz] at hnz
            have HZ := Lib.hid hz.symm
            clear hz
            obtain ⟨v, hv⟩ : ∃ v, v = kCheck (numS s) := ⟨_, rfl⟩
            by_cases hv0 : v = 0
            · subst hv0
              have HV := Lib.hid hv.symm
              have hk1 := (kCheck_key _).1 hv.symm
              cases hn : kNext (numS s) with
              | none =>
                have hmax := (next_none _ hk1).1 hn
                have HN : Hid (kNextS s = (⟨#[]⟩, false)) := by show kNextS s = _; unfold kNextS; rw [hn]
                rw [decide_eq_true (hmax.trans hnz.symm)] at hsz
                clear hn hmax hk1 hv hnz
                go_wp2_with fail
                refine (HH.out.repv c lg (by first | rfl | exact hcz) (by show 1 * c ≤ 1000000; omega) (by omega) HL10.out HLg.out).mono ?_
                rintro e w11 ⟨rfl, hl, hb⟩
                have HL11 := Lib.hid hl
                have HB11 := Lib.hid (below_then5 HB10.out hb)
                clear hl hb HL10 HB10
                go_wp2_with fail
                refine (HH.out.nextv ⟨#[]⟩ false (by omega) HL11.out HNl.out).mono ?_
                rintro e w12 ⟨rfl, hl, hb⟩
                have HL12 := Lib.hid hl
                have HB12 := Lib.hid (below_then5 HB11.out hb)
                clear hl hb HL11 HB11
                go_wp2_with fail
                refine (HH.out.nextv ⟨#[]⟩ false (by omega) HL12.out HN.out).mono ?_
                rintro e w13 ⟨rfl, hl, hb⟩
                have HL13 := Lib.hid hl
                have HB13 := Lib.hid (below_then5 HB12.out hb)
                clear hl hb HL12 HB12
                go_wp2_with fail
                refine (HH.out.checkv 12 (by omega) HL13.out HCl.out).mono ?_
                rintro e w14 ⟨rfl, hl, hb⟩
                have HL14 := Lib.hid hl
                have HB14 := Lib.hid (below_then5 HB13.out hb)
                clear hl hb HL13 HB13
                go_wp2_with fail
                refine (HH.out.checkv 2 (by rw [ByteArray.size_append]; show _ + 1 ≤ _; omega) HL14.out HCm.out).mono ?_
                rintro e w15 ⟨rfl, hl, hb⟩
                have HL15 := Lib.hid hl
                have HB15 := Lib.hid (below_then5 HB14.out hb)
                clear hl hb HL14 HB14
                go_wp2_with fail
                refine (HH.out.checkv 0 (by omega) HL15.out HV.out).mono ?_
                rintro e w16 ⟨rfl, hl, hb⟩
                have HL16 := Lib.hid hl
                have HB16 := Lib.hid (below_then5 HB15.out hb)
                clear hl hb HL15 HB15
                go_wp2_with fail
                refine (HH.out.repv 32 z32 rfl (by decide) (by decide) HL16.out HZ.out).mono ?_
                rintro e w17 ⟨rfl, hl, hb⟩
                have HL17 := Lib.hid hl
                have HB17 := Lib.hid (below_then5 HB16.out hb)
                clear hl hb HL16 HB16
                go_wp2_with fail
                refine (works5_any HH.out _ HL17.out).mono ?_
                rintro e wz ⟨rfl, hb⟩
                go_wp2_with fail
                go_ret
                exact ⟨rfl, below_then5 HB17.out hb⟩
              | some n =>
                have hmax : ¬ numS s = numS z32 := fun he => by
                  have := (next_none _ hk1).2 (he.trans hnz)
                  rw [hn] at this
                  cases this
                obtain ⟨u, hu⟩ : ∃ u, u = strI n := ⟨_, rfl⟩
                have HN : Hid (kNextS s = (u, true)) := by show kNextS s = _; unfold kNextS; rw [hn, hu]
                rw [decide_eq_false hmax] at hsz
                clear hn hmax hk1 hv hnz hu
                go_wp2_with fail
                refine (HH.out.repv c lg (by first | rfl | exact hcz) (by show 1 * c ≤ 1000000; omega) (by omega) HL10.out HLg.out).mono ?_
                rintro e w11 ⟨rfl, hl, hb⟩
                have HL11 := Lib.hid hl
                have HB11 := Lib.hid (below_then5 HB10.out hb)
                clear hl hb HL10 HB10
                go_wp2_with fail
                refine (HH.out.nextv ⟨#[]⟩ false (by omega) HL11.out HNl.out).mono ?_
                rintro e w12 ⟨rfl, hl, hb⟩
                have HL12 := Lib.hid hl
                have HB12 := Lib.hid (below_then5 HB11.out hb)
                clear hl hb HL11 HB11
                go_wp2_with fail
                refine (HH.out.nextv u true (by omega) HL12.out HN.out).mono ?_
                rintro e w13 ⟨rfl, hl, hb⟩
                have HL13 := Lib.hid hl
                have HB13 := Lib.hid (below_then5 HB12.out hb)
                clear hl hb HL12 HB12
                go_wp2_with fail
                refine (HH.out.checkv 12 (by omega) HL13.out HCl.out).mono ?_
                rintro e w14 ⟨rfl, hl, hb⟩
                have HL14 := Lib.hid hl
                have HB14 := Lib.hid (below_then5 HB13.out hb)
                clear hl hb HL13 HB13
                go_wp2_with fail
                refine (HH.out.checkv 2 (by rw [ByteArray.size_append]; show _ + 1 ≤ _; omega) HL14.out HCm.out).mono ?_
                rintro e w15 ⟨rfl, hl, hb⟩
                have HL15 := Lib.hid hl
                have HB15 := Lib.hid (below_then5 HB14.out hb)
                clear hl hb HL14 HB14
                go_wp2_with fail
                refine (HH.out.checkv 0 (by omega) HL15.out HV.out).mono ?_
                rintro e w16 ⟨rfl, hl, hb⟩
                have HL16 := Lib.hid hl
                have HB16 := Lib.hid (below_then5 HB15.out hb)
                clear hl hb HL15 HB15
                go_wp2_with fail
                refine (HH.out.repv 32 z32 rfl (by decide) (by decide) HL16.out HZ.out).mono ?_
                rintro e w17 ⟨rfl, hl, hb⟩
                have HL17 := Lib.hid hl
                have HB17 := Lib.hid (below_then5 HB16.out hb)
                clear hl hb HL16 HB16
                go_wp2_with fail
                refine (works5_any HH.out _ HL17.out).mono ?_
                rintro e wz ⟨rfl, hb⟩
                go_wp2_with fail
                go_ret
                exact ⟨rfl, below_then5 HB17.out hb⟩
            · have HN := Lib.hid (kNextS_bad s (by rw [← hv]; exact hv0))
              have HV := Lib.hid hv.symm
              have hvb : (v == 0) = false := by rw [beq_eq_false_iff_ne]; exact hv0
              clear hv hsz hnz
              go_wp2_with fail
              refine (HH.out.repv c lg (by first | rfl | exact hcz) (by show 1 * c ≤ 1000000; omega) (by omega) HL10.out HLg.out).mono ?_
              rintro e w11 ⟨rfl, hl, hb⟩
              have HL11 := Lib.hid hl
              have HB11 := Lib.hid (below_then5 HB10.out hb)
              clear hl hb HL10 HB10
              go_wp2_with fail
              refine (HH.out.nextv ⟨#[]⟩ false (by omega) HL11.out HNl.out).mono ?_
              rintro e w12 ⟨rfl, hl, hb⟩
              have HL12 := Lib.hid hl
              have HB12 := Lib.hid (below_then5 HB11.out hb)
              clear hl hb HL11 HB11
              go_wp2_with fail
              refine (HH.out.nextv ⟨#[]⟩ false (by omega) HL12.out HN.out).mono ?_
              rintro e w13 ⟨rfl, hl, hb⟩
              have HL13 := Lib.hid hl
              have HB13 := Lib.hid (below_then5 HB12.out hb)
              clear hl hb HL12 HB12
              go_wp2_with fail
              refine (HH.out.checkv 12 (by omega) HL13.out HCl.out).mono ?_
              rintro e w14 ⟨rfl, hl, hb⟩
              have HL14 := Lib.hid hl
              have HB14 := Lib.hid (below_then5 HB13.out hb)
              clear hl hb HL13 HB13
              go_wp2_with fail
              refine (HH.out.checkv 2 (by rw [ByteArray.size_append]; show _ + 1 ≤ _; omega) HL14.out HCm.out).mono ?_
              rintro e w15 ⟨rfl, hl, hb⟩
              have HL15 := Lib.hid hl
              have HB15 := Lib.hid (below_then5 HB14.out hb)
              clear hl hb HL14 HB14
              go_wp2_with fail
              refine (HH.out.checkv v (by omega) HL15.out HV.out).mono ?_
              rintro e w16 ⟨rfl, hl, hb⟩
              have HL16 := Lib.hid hl
              have HB16 := Lib.hid (below_then5 HB15.out hb)
              clear hl hb HL15 HB15
              go_wp2_with fail
              refine (works5_any HH.out _ HL16.out).mono ?_
              rintro e wz ⟨rfl, hb⟩
              go_wp2_with fail
              go_ret
              exact ⟨rfl, below_then5 HB16.out hb⟩
end Go.Proofs.YtogkabdampkbjaaDoor
