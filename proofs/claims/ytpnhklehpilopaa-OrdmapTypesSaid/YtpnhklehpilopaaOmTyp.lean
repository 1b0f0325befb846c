/- OrdmapTypes: the walk. -/
import Derived.Test.YtpnhklehpilopaaOmTyp0
import Derived.Test.YtpnhklehpilopaaOmRow0
import Derived.Test.YtpnhklehpilopaaOmWorks
import Derived.Test.YtpnhklehpilopaaOmRange
import Derived.Test.YtpnhklehpilopaaOmTypR
import Derived.RangeFuncBox
import Derived.Maps.OwnIn
import Derived.Deep.QuietTactic
import Derived.StillTailTactics
import Derived.BigQuiet
import Derived.Outline
namespace Go.Proofs.Ytpnhklehpilopaa
open Go Go.RowKit Go.Maps

attribute [local go_sem] Oper.semAt_some

set_option maxHeartbeats 8000000 in
set_option maxRecDepth 100000 in
theorem ordmapTypes_in (n : Nat) (hn : 10 ≤ n) (a : Option Addr) (len cap : Nat) (xs : List Int) (w : World) (hS : Sl w a len cap xs) (hc63 : cap ≤ 9223372036854775807) :
    CallsIn Fence.wide n Try.prog 7 #[.slice a len cap] w fun e w' => e = .returned (.bool true) ∧ Below w.heap.size w w' := by
  have h1 : 1 ≤ n := by omega
  obtain ⟨m, hm⟩ : ∃ m : Nat, m = min len 100 := ⟨_, rfl⟩
  have hmin : min (len : Int) 100 = (m : Int) := by omega
  have hml : m ≤ len := by omega
  have hm100 : m ≤ 100 := by omega
  have hmc : (m : Int) ≤ (cap : Int) := by have := hS.cap; omega
  have hm0 : (0 : Int) ≤ (m : Int) := by omega
  have HS := Lib.hid hS
  have hmm := @run_makeMap Try.prog
  clear hS hm
  refine callsIn_of_wp_marks Try.func7 rfl trivial ?_ rfl
  simp only [Try.ntmps7, List.size_toArray, List.length_nil, List.length_cons, Nat.reduceAdd, Nat.reduceSub, Array.replicate_succ, Array.replicate_zero, List.push_toArray, List.append_toArray, List.nil_append, List.cons_append]
  gi_wp2_with fail
  refine ⟨trivial, (callsIn_wide.2 (newD _)).mono ?_⟩
  rintro e w1 ⟨rfl, hMD, hbD, hsD⟩
  gi_wp2_with fail
  refine ⟨trivial, (callsIn_wide.2 (newE _)).mono ?_⟩
  rintro e w2 ⟨rfl, hME, hbE, hsE⟩
  gi_wp2_with fail
  obtain ⟨X, hX⟩ : ∃ X, X = ((w2.alloc (.cells #[.pointer (some ⟨w.heap.size + 1 + 1, 0, none⟩)] 77)).alloc (.map #[] 0)).alloc (.cells #[.map (some (w.heap.size + 1 + 1 + 1 + 1))] 80) := ⟨_, rfl⟩
  simp only [World.size_alloc] at hMD hbD hsD
  have hs2 : w2.heap.size = w.heap.size + 1 + 1 + 1 := by omega
  have hs1 : w1.heap.size = w.heap.size + 1 + 1 := by omega
  rw [hs1] at hME hbE
  have hXs : X.heap.size = w.heap.size + 1 + 1 + 1 + 1 + 1 + 1 := by rw [hX]; simp [hs2]
  have hX2 : Below w2.heap.size w2 X := by rw [hX]; exact (((Below.refl _ _).alloc (Nat.le_refl _) _).alloc (by simp) _).alloc (by simp; omega) _
  have hW2 : Below w.heap.size w w2 := (((Below.refl _ _).alloc (Nat.le_refl _) _).trans (hbD.mono (by omega))).trans (hbE.mono (by omega))
  have hWX : Below w.heap.size w X := hW2.trans (hX2.mono (by omega))
  have hres0 : Boxed (w.alloc (.cells #[.bool false] 4)) w.heap.size 4 (.bool false) := Boxed.new _ _ _
  have hres : Boxed X w.heap.size 4 (.bool false) := (hX2.block _ (by omega)).trans ((hbE.block _ (by omega)).trans ((hbD.block _ (by omega)).trans hres0))
  have hbox3 : Boxed X (w.heap.size + 1 + 1 + 1) 77 (.pointer (some ⟨w.heap.size + 1 + 1, 0, none⟩)) := by
    rw [hX, ← hs2]; exact ((Boxed.new _ _ _).alloc _).alloc _
  have hbox5 : Boxed X (w.heap.size + 1 + 1 + 1 + 1 + 1) 80 (.map (some (w.heap.size + 1 + 1 + 1 + 1))) := by
    rw [hX]
    exact boxed_at (by simp [hs2]) _ _
  have hown0 : X.ownsMap Try.prog 5 heldR (w.heap.size + 1 + 1 + 1 + 1) 0 (.map []) := by
    rw [hX]
    have := World.ownsMap_made (w2.alloc (.cells #[.pointer (some ⟨w.heap.size + 1 + 1, 0, none⟩)] 77)) Try.prog 5 heldR
    rw [World.size_alloc, hs2] at this
    exact this.alloc _
  have hTy : TyI X w.heap.size 0 [] (.map []) none 0 none 0 :=
    ⟨⟨hres, hbox3, hbox5, hown0, agP_nil, (fun x hx => by simp at hx), (fun x hx => by simp at hx)⟩, (hMD.below (hbE.mono (by omega))).below (hX2.mono (by omega)), hME.below (hX2.mono (by omega)), (fun a ha => by cases ha), (fun a ha => by cases ha), Nat.le_refl _⟩
  have HTy := Lib.hid hTy
  have HWX := Lib.hid hWX
  rw [← hX]
  clear hX hMD hME hbD hbE hsD hsE hs1 hs2 hX2 hW2 hWX hres0 hres hbox3 hbox5 hown0 hTy
  gi_loopw [30] (fun i wr => ∃ j : Nat, j ≤ m ∧ i = .int .i64 j ∧ Hid (∃ L D pD cD pE cE, TyI wr w.heap.size j L D pD cD pE cE) ∧ Hid (Below w.heap.size w wr)) (fun i _ => m - (intOf i).toNat)
  case atStart => exact ⟨0, Nat.zero_le _, rfl, ⟨_, _, _, _, _, _, HTy.out⟩, HWX⟩
  case round =>
    obtain ⟨j, hj, rfl, HT, HBw⟩ := hrel
    by_cases hlt : j < m
    · obtain ⟨L, D, pD, cD, pE, cE, hT⟩ := HT.out
      have hSw := HS.out.below HBw.out
      obtain ⟨g, o, rfl, hcell⟩ := hSw.bytes (by omega)
      have hc := hcell j (by omega)
      have hbr := getD_rng HS.out.rng j (by rw [HS.out.len]; omega)
      have hcv := conv_sl (hSw.take j (by omega))
      generalize xs.getD j 0 = b at hc hbr
      generalize strI (xs.take j) = s at hcv
      obtain ⟨hb0, hb1⟩ := hbr
      have hjc : (j : Int) ≤ (cap : Int) := by omega
      have hj0 : (0 : Int) ≤ (j : Int) := by omega
      have hjm : (j : Int) < (m : Int) := by omega
      have hA : Below wr.heap.size wr ((wr.alloc (.cells #[.int .i64 j, .string s] 76)).alloc (.cells #[.int .i64 j] 3)) := ((Below.refl _ _).alloc (Nat.le_refl _) _).alloc (by simp) _
      obtain ⟨on, os, q, hon, hq, hhas⟩ := hT.look b
      have HTT := Lib.hid hT
      have HA := Lib.hid hA
      clear hT hA hSw hcell HT
      gi_wp2_with fail
      obtain ⟨Wa, hWa⟩ : ∃ Wa, Wa = (wr.alloc (.cells #[.int .i64 j, .string s] 76)).alloc (.cells #[.int .i64 j] 3) := ⟨_, rfl⟩
      have hsa : Wa.heap.size = wr.heap.size + 1 + 1 := by rw [hWa]; simp
      have hxa : Wa.heap[wr.heap.size]? = some (.cells #[.int .i64 j, .string s] 76 (0, 0)) := by rw [hWa, Below.heap_alloc _ _ _ (by simp)]; exact heap_alloc_new wr _
      have hna : Boxed Wa (wr.heap.size + 1) 3 (.int .i64 j) := by rw [hWa]; exact boxed_at (by simp) _ _
      have hAa : Below wr.heap.size wr Wa := by rw [hWa]; exact HA.out
      rw [← hWa]
      clear hWa
      have hTa := HTT.out.below hAa
      have hlen := HTT.out.len
      have hNw := HTT.out.rest.bG.lt
      have hpD : ∀ a, pD = some a → a.block < wr.heap.size := fun a ha => (HTT.out.mD.own ha).2
      have hpE : ∀ a, pE = some a → a.block < wr.heap.size := fun a ha => (HTT.out.mE.own ha).2
      have hsd := setD hTa.mD (by rw [vals_length]; omega) b (j, s) (by omega)
      rw [hon, has_vals] at hsd
      refine ⟨trivial, (callsIn_wide.2 hsd).mono ?_⟩
      rintro e W5 ⟨rfl, pD', cD', hM5, hT5, hH5⟩
      have hr5 : TyP W5 w.heap.size j L D := hTa.rest.touch hT5 (.inl rfl) (fun a ha => ⟨(hTa.rowD a ha).1, by obtain ⟨cs, hc⟩ := (hTa.rowD a ha).2; exact ⟨cs, _, hc, by decide⟩⟩)
      have hE5 := hTa.mE.besideD hTa.rE hT5 hTa.rowD
      have hrD5 := head_from hH5 hTa.rD (by omega)
      have keep5 : ∀ q, wr.heap.size ≤ q → q < Wa.heap.size → W5.heap[q]? = Wa.heap[q]? := fun q h1 h2 => hT5.block q h2 (by omega) (fun a ha => by have := hpD a ha; omega)
      have hx5 := (keep5 _ (Nat.le_refl _) (by omega)).trans hxa
      have hn5 : Boxed W5 (wr.heap.size + 1) 3 (.int .i64 j) := (keep5 _ (by omega) (by omega)).trans hna
      have c5 := (hr5.bE.alloc (.cells #[.int .i64 on, .string os] 76)).cell
      have hs5 := hT5.size
      have hb5 : Below w.heap.size wr W5 := (hAa.mono HBw.out.size).trans (hT5.below (by omega) (fun a ha => by have := hTa.rD a ha; omega) (by omega))
      have HP5 := Lib.hid (And.intro hr5 (And.intro hE5 (And.intro hrD5 (And.intro hM5 (And.intro hx5 (And.intro hn5 hb5))))))
      have HRE := Lib.hid hTa.rE
      have HPE := Lib.hid hpE
      clear hsd hr5 hE5 hrD5 hM5 hT5 hH5 hx5 hn5 keep5 hpD hpE hTa hAa hxa hna hb5
      gi_wp2_with fail
      obtain ⟨hr5, hE5, hrD5, hM5, hx5, hn5, hb5⟩ := HP5.out
      obtain ⟨W6, hW6⟩ : ∃ W6, W6 = W5.alloc (.cells #[.int .i64 on, .string os] 76) := ⟨_, rfl⟩
      have hs6 : W6.heap.size = W5.heap.size + 1 := by rw [hW6]; simp
      have hb6 : Below W5.heap.size W5 W6 := by rw [hW6]; exact (Below.refl _ _).alloc (Nat.le_refl _) _
      have ho6 : W6.heap[W5.heap.size]? = some (.cells #[.int .i64 on, .string os] 76 (0, 0)) := by rw [hW6]; exact heap_alloc_new W5 _
      rw [← hW6]
      clear hW6
      have hx6 := (hb6.block _ (by omega)).trans hx5
      have hn6 : Boxed W6 (wr.heap.size + 1) 3 (.int .i64 j) := (hb6.block _ (by omega)).trans hn5
      have hr6 := hr5.below hb6
      have hE6 := hE5.below hb6
      have hM6 := hM5.below hb6
      have hse := setE hE6 (by rw [vals_length]; omega) b (some ⟨wr.heap.size + 1, 0, none⟩) (by omega)
      rw [hq, has_vals] at hse
      refine ⟨trivial, (callsIn_wide.2 hse).mono ?_⟩
      rintro e W7 ⟨rfl, pE', cE', hM7, hT7, hH7⟩
      have hrowE : ∀ a, pE = some a → w.heap.size + 6 ≤ a.block ∧ ∃ cs, W6.heap[a.block]? = some (.cells cs 198 (0, 0)) := fun a ha => ⟨HRE.out a ha, hE6.rowAt ha⟩
      have hr7 : TyP W7 w.heap.size j L D := hr6.touch hT7 (.inr rfl) (fun a ha => ⟨(hrowE a ha).1, by obtain ⟨cs, hc⟩ := (hrowE a ha).2; exact ⟨cs, _, hc, by decide⟩⟩)
      have hD7 := hM6.besideE hrD5 hT7 hrowE
      have hrE7 := head_from hH7 HRE.out (by omega)
      have keep7 : ∀ q, wr.heap.size ≤ q → q < W6.heap.size → W7.heap[q]? = W6.heap[q]? := fun q h1 h2 => hT7.block q h2 (by omega) (fun a ha => by have := HPE.out a ha; omega)
      have hx7 := (keep7 _ (Nat.le_refl _) (by omega)).trans hx6
      have hn7 : Boxed W7 (wr.heap.size + 1) 3 (.int .i64 j) := (keep7 _ (by omega) (by omega)).trans hn6
      have ho7 := (keep7 _ (by omega) (by omega)).trans ho6
      have hb7 : Below w.heap.size wr W7 := (hb5.trans (hb6.mono (by omega))).trans (hT7.below (by omega) (fun a ha => by have := HRE.out a ha; omega) (by omega))
      have hs7 := hT7.size
      have co0 := cell_of ho7 (o := 0) (v := .int .i64 on) rfl
      have co1 := cell_of ho7 (o := 1) (v := .string os) rfl
      have cG := hr7.bG.cell
      have hlook : ∀ k, (Instr.lookup 80 (.map (some (w.heap.size + 1 + 1 + 1 + 1))) (.int .u8 b) false).run Try.prog (W7.drewN k) = .ok (pvD (on, os)) (W7.drewN k) := fun k => by
        have := look_pair (W := W7.drewN k) (ownsMap_same hr7.own rfl) hr7.ag b hb0 hb1
        rwa [hon] at this
      have hneq := neq_self (on, os)
      have hB : kHas L b = true → ∃ B, q = some ⟨B, 0, none⟩ ∧ W7.cell? ⟨B, 0, none⟩ = some (.int .i64 on) := fun hh => by
        obtain ⟨B, h1, x, hx, h2, h3⟩ := hhas hh
        refine ⟨B, h1, ?_⟩
        have := (hr7.ints x hx).1.cell
        rwa [h2, h3] at this
      have cx0 := cell_of hx7 (o := 0) (v := .int .i64 j) rfl
      have cx1 := cell_of hx7 (o := 1) (v := .string s) rfl
      have HKEY := Lib.hid (keyOf_int_mk Try.underlying5 (wf_u8 hb0 hb1))
      have HOWN : Hid (∀ k, (W7.drewN k).ownsMap Try.prog 5 heldR (w.heap.size + 1 + 1 + 1 + 1) j D) := Lib.hid fun k => ownsMap_same hr7.own rfl
      have HP7 := Lib.hid (And.intro hr7 (And.intro hD7 (And.intro hrE7 (And.intro hM7 (And.intro hx7 (And.intro hn7 (And.intro hb7 hrD5)))))))
      clear hse hr7 hD7 hrE7 hM7 hx7 hn7 ho7 hb7 hT7 hH7 hrowE keep7 hx6 hn6 ho6 hr6 hE6 hM6 hb6 hr5 hE5 hrD5 hM5 hx5 hn5 hb5 c5 HP5 hhas hon hq
      generalize kHas L b = had at *
      cases had with
      | false =>
        clear hB
        gi_wp2_with fail
        refine wpIn_wide.2 ?_
        go_quiet (fail)
        gi_wp2_with (gi_at_mapUpdate; refine wpListIn_mapUpdate_own _ rfl _ _ _ 80 rfl 5 76 lawByte Try.underlying80 heldR (w.heap.size + 1 + 1 + 1 + 1) j D rfl (HOWN.out _) (by unfold maxLen; omega) _ _ _ rfl rfl HKEY.out (.held (pvD (j, s))) [] rfl ?_; intro w8 hown8 hgrow8)
        go_roundw
        case rel =>
          obtain ⟨hr7, hD7, hrE7, hM7, hx7, hn7, hb7, hrD5⟩ := HP7.out
          have hbq : Below W7.heap.size W7 (W7.drewN nq) := Below.drewN' nq (Below.refl _ _)
          have hg8 : W7.grownBy w8 (some (w.heap.size + 1 + 1 + 1 + 1)) := ⟨hgrow8.os.trans hbq.os, hgrow8.tape.trans hbq.tape, hgrow8.output.trans hbq.output, Nat.le_trans hbq.size hgrow8.size, fun k hk hne => (hgrow8.block k (Nat.lt_of_lt_of_le hk hbq.size) hne).trans (hbq.block k hk)⟩
          exact ⟨j + 1, by omega, by simp, ⟨_, _, _, _, _, _, tyI_next (x := ((j : Int), s)) hr7 hD7 hM7 hrD5 hrE7 hn7 (by omega) hb0 hb1 hlen HTT.out.mD.srt hown8 hg8⟩, (HBw.out.trans hb7).grown hg8 (by have := hb7.size; omega) (fun k e => by cases e; omega)⟩
        case measure => simp [intOf]; omega
      | true =>
        obtain ⟨B, rfl, cB⟩ := hB rfl
        gi_wp2_with fail
        refine wpIn_wide.2 ?_
        go_quiet (fail)
        gi_wp2_with (gi_at_mapUpdate; refine wpListIn_mapUpdate_own _ rfl _ _ _ 80 rfl 5 76 lawByte Try.underlying80 heldR (w.heap.size + 1 + 1 + 1 + 1) j D rfl (HOWN.out _) (by unfold maxLen; omega) _ _ _ rfl rfl HKEY.out (.held (pvD (j, s))) [] rfl ?_; intro w8 hown8 hgrow8)
        go_roundw
        case rel =>
          obtain ⟨hr7, hD7, hrE7, hM7, hx7, hn7, hb7, hrD5⟩ := HP7.out
          have hbq : Below W7.heap.size W7 (W7.drewN nq) := Below.drewN' nq (Below.refl _ _)
          have hg8 : W7.grownBy w8 (some (w.heap.size + 1 + 1 + 1 + 1)) := ⟨hgrow8.os.trans hbq.os, hgrow8.tape.trans hbq.tape, hgrow8.output.trans hbq.output, Nat.le_trans hbq.size hgrow8.size, fun k hk hne => (hgrow8.block k (Nat.lt_of_lt_of_le hk hbq.size) hne).trans (hbq.block k hk)⟩
          exact ⟨j + 1, by omega, by simp, ⟨_, _, _, _, _, _, tyI_next (x := ((j : Int), s)) hr7 hD7 hM7 hrD5 hrE7 hn7 (by omega) hb0 hb1 hlen HTT.out.mD.srt hown8 hg8⟩, (HBw.out.trans hb7).grown hg8 (by have := hb7.size; omega) (fun k e => by cases e; omega)⟩
        case measure => simp [intOf]; omega
    · obtain rfl : j = m := by omega
      obtain ⟨L, D, pD, cD, pE, cE, hT⟩ := HT.out
      have HTT := Lib.hid hT
      have hNw := hT.rest.bG.lt
      have hL := hT.len
      clear hT HT HTy HWX hXs hmm
      gi_wp2_with fail
      refine ⟨trivial, (callsIn_wide.2 (allMakeD _ _)).mono ?_⟩
      rintro e V2 ⟨rfl, rfl⟩
      gi_wp2_with fail
      refine ⟨trivial, (callsIn_wide.2 (yieldsD _ _ _)).mono ?_⟩
      rintro e V3 ⟨rfl, rfl⟩
      gi_wp2_with fail
      rename_i Kd hKd
      obtain ⟨P, hP⟩ : ∃ P, P = wr.heap.size := ⟨_, rfl⟩
      obtain ⟨WR, hWR⟩ : ∃ WR, WR = (wr.alloc (.cells #[.int .i64 (-1)] 3)).alloc (.cells #[.pointer (some ⟨w.heap.size + 1, 0, none⟩)] 73) := ⟨_, rfl⟩
      have hsR : WR.heap.size = P + 1 + 1 := by rw [hWR, hP]; simp
      have hbR : Below P wr WR := by rw [hWR, hP]; exact ((Below.refl _ _).alloc (Nat.le_refl _) _).alloc (by simp) _
      have blR : Boxed WR P 3 (.int .i64 (lastK L [])) := by rw [hWR]; exact (boxed_at hP.symm _ _).alloc _
      have bpR : Boxed WR (P + 1) 73 (.pointer (some ⟨w.heap.size + 1, 0, none⟩)) := by rw [hWR]; exact boxed_at (by simp [hP]) _ _
      rw [← hWR, ← hP]
      rw [← hP] at hNw
      clear hWR
      have hTR := HTT.out.below (by rw [← hP]; exact hbR)
      have hseq := allIdxD (n - 1) (by omega) (by rw [vals_length]; omega) (P + 1) P WR bpR.cell hTR.mD (fun a ha => by rw [hP]; exact (HTT.out.mD.own ha).2) (by omega) (fun i => ((pkL L i).1, (pkL L i).2.1)) (fun jj x hx => by
        unfold vals at hx
        rw [List.getElem?_map] at hx
        cases hz : L[jj]? with
        | none => rw [hz] at hx; cases hx
        | some z => rw [hz] at hx; cases hx; rw [pkL_at hz])
      have hPle : P ≤ wr.heap.size := by omega
      have hPge : wr.heap.size ≤ P := by omega
      have HP := Lib.hid hP
      clear hTR hP
      refine rangeH (encs := fun i => encD ((pkL L i).1, (pkL L i).2.1)) (fun x B T => ((((T.setIfInBounds 97 (.int .u8 (pkL L x).1)).setIfInBounds 98 (pvD (pkL L x).2.1)).setIfInBounds 17 (.int .u8 (pkL L x).1)).setIfInBounds 18 (.pointer (some ⟨B, 0, none⟩))))
        (fun x B W => W.heap[B]? = some (.cells #[.int .i64 (pkL L x).2.1.1, .string (pkL L x).2.1.2] 76 (0, 0))) rfl h1 (gf := 137) (lb := #[.pointer (some ⟨P + 1, 0, none⟩)]) rfl trivial (enters_of Try.func137 (by kernel_rfl) rfl)
        hseq belowK_t (belowK_b (by omega)) (Below.refl _ _) (fun _ => rfl)
        (fun pre W => Boxed W P 3 (.int .i64 (lastK L pre)) ∧ Below P wr W)
        (fun c pre W => c = .ret ∧ ¬ pre <+: List.range (vals vD L).length)
        (OwnFrom.and (fun s W W' row hs hg hr => hs.kept hg (fun e => by have := (hr _ e.symm).1; omega)) (ownFrom_below (by omega) (by omega))) (fun c s W W' row hs hg hr => hs) ⟨blR, hbR⟩
        (fun x B s W W' row hs hg hr => (hg.block B (Array.getElem?_eq_some_iff.1 hs).1 (fun e => by obtain ⟨_, o, ho, hc⟩ := hr _ e.symm; rw [hs] at ho; cases ho; cases hc)).trans hs) ?assign ?body ?done ?stop
      case assign =>
        rintro lr pre x W K ⟨hbl, hbW⟩ hK
        unfold encD
        have hz := hbW.size
        have hbA : Below W.heap.size W (W.alloc (.cells #[.int .i64 (pkL L x).2.1.1, .string (pkL L x).2.1.2] 76)) := (Below.refl _ _).alloc (Nat.le_refl _) _
        have hKK := hK W.heap.size _ (keepsFrom_below hbA) (hbA.mono (by omega)) ⟨hbl.alloc _, hbW.trans (hbA.mono (by omega))⟩ (heap_alloc_new W _)
        gi_wp2
        exact hKK
      case body =>
        rintro lr pre x B W ⟨hbl, hbW⟩ hB hlt
        rw [vals_length] at hlt
        have hpos : 0 < L.length := by omega
        have hyi := pkL_idx hpos x
        have hlast : pre ++ [x] <+: List.range (vals vD L).length → lastK L pre < (pkL L x).1 := fun h => last_lt (srt_vals vD HTT.out.mD.srt) (fun y hy => (HTT.out.rest.keys y hy).1) (by rw [vals_length] at h; exact h)
        have hsn := lastK_snoc L pre x
        generalize pkL L x = y at *
        obtain ⟨ky, ⟨ny, sy⟩, By⟩ := y
        dsimp only at hB hlast hsn
        have hmem := List.mem_of_getElem? hyi
        have hTW := HTT.out.below (by rw [← HP.out]; exact hbW)
        have hg := kGet_some ordI (srt_vals vD HTT.out.mD.srt) hyi
        have hge := getE hTW.mE (by rw [vals_length]; omega) ky
        rw [get_vals, hg, has_vals, ← kGet_has, hg] at hge
        have hkr := HTT.out.rest.keys _ hmem
        dsimp only at hkr
        have hz := hbW.size
        have c1 := hTW.rest.bE.cell
        have HGET := Lib.hid hge
        have HHB := Lib.hid hB
        have HBL := Lib.hid hbl
        have HBW := Lib.hid hbW
        have HTW := Lib.hid hTW
        have HG := Lib.hid hg
        have HMEM := Lib.hid hmem
        have HLAST := Lib.hid hlast
        have HSN := Lib.hid hsn
        clear hge hB hbl hbW hTW hg hmem hyi hlast hsn
        simp only [List.setIfInBounds_toArray, List.set_cons_succ, List.set_cons_zero]
        gi_wp2_with fail
        refine ⟨trivial, (fun h => by cases h), (CallsIn.inRound lr (callsIn_wide.2 HGET.out)).mono ?_⟩
        rintro e W2 ⟨rfl, hb2⟩
        have hT2 := HTW.out.below hb2
        have hl2 : Boxed W2 P 3 (.int .i64 (lastK L pre)) := (hb2.block _ HBL.out.lt).trans HBL.out
        have hB2 := (hb2.block B (Array.getElem?_eq_some_iff.1 HHB.out).1).trans HHB.out
        have cl := hl2.cell
        have fl := hl2.frozen
        have cr := hT2.rest.res.cell
        have fr := hT2.rest.res.frozen
        have cG := hT2.rest.bG.cell
        have cB0 := cell_of hB2 (o := 0) (v := .int .i64 ny) rfl
        have cB1 := cell_of hB2 (o := 1) (v := .string sy) rfl
        have cI := (hT2.rest.ints _ HMEM.out).1.cell
        dsimp only at cI
        have hlook : ∀ k, (Instr.lookup 80 (.map (some (w.heap.size + 1 + 1 + 1 + 1))) (.int .u8 ky) false).run Try.prog (W2.drewN k) = .ok (pvD (ny, sy)) (W2.drewN k) := fun k => by
          have := look_pair (W := W2.drewN k) (ownsMap_same hT2.rest.own rfl) hT2.rest.ag ky hkr.1 hkr.2
          rwa [get_vals, HG.out] at this
        have hneq := neq_self (ny, sy)
        have hwr : IntKind.i64.wrap ky = ky := by rw [IntKind.wrap_i64]; omega
        have HB2 := Lib.hid hb2
        clear hT2 hl2 hB2 hb2
        simp only [Option.map_some, Option.getD_some, Option.isSome_some]
        by_cases hle : ky ≤ lastK L pre
        · have hde : decide (ky ≤ lastK L pre) = true := decide_eq_true hle
          gi_wp2_with fail
          refine wpIn_quiet_round (by kernel_rfl) (by kernel_rfl) (fun ⟨_, _, hq⟩ => hq) (by kernel_rfl) ?_
          repeat (go_big_quiet_step (fail))
          refine wpQuiet_nil ?_
          intro _ hw'
          obtain ⟨nq, rfl⟩ := hw'
          gi_wp2_with fail
          have hbq : Below W.heap.size W (W2.drewN nq) := Below.drewN' nq HB2.out
          exact ⟨(keepsFrom_below hbq).trans ((KeepsOthers.setCell _ _ _).from _), rfl, fun h => absurd (HLAST.out h) (by omega)⟩
        · have hde : decide (ky ≤ lastK L pre) = false := decide_eq_false hle
          have HLE := Lib.hid hle
          clear hle
          gi_wp2_with fail
          refine wpIn_quiet_round (by kernel_rfl) (by kernel_rfl) (fun ⟨_, _, hq⟩ => hq) (by kernel_rfl) ?_
          repeat (go_big_quiet_step (fail))
          refine wpQuiet_nil ?_
          intro _ hw'
          obtain ⟨nq, rfl⟩ := hw'
          gi_wp2_with fail
          have hbq : Below W.heap.size W (W2.drewN nq) := Below.drewN' nq HB2.out
          have hB3 : Below P W ((W2.drewN nq).setCell ⟨P, 0, none⟩ (.int .i64 ky)) := (hbq.mono (show P ≤ W.heap.size by omega)).setCell (p := ⟨P, 0, none⟩) (Nat.le_refl P) (.int .i64 ky)
          have hl3 : Boxed (W2.drewN nq) P 3 (.int .i64 (lastK L pre)) := (hbq.block _ HBL.out.lt).trans HBL.out
          refine ⟨(keepsFrom_below hbq).trans ((KeepsOthers.setCell _ _ _).from _), hB3, ?_, HBW.out.trans hB3⟩
          rw [HSN.out]
          exact hl3.set (.int .i64 ky)
      case done =>
        rintro D' xs' W hD hxs ⟨hbl, hbW⟩ hK
        have hTW := HTT.out.below (by rw [← HP.out]; exact hbW)
        have hld : ∀ V, Below W.heap.size W V → Calls Try.prog 46 #[.pointer (some ⟨w.heap.size + 1, 0, none⟩)] V fun e w' => e = .returned (.int .i64 L.length) ∧ w' = V := fun V hb => by
          have := lenD (hTW.mD.below hb)
          rw [vals_length] at this
          exact this
        have hle : ∀ V, Below W.heap.size W V → Calls Try.prog 47 #[.pointer (some ⟨w.heap.size + 1 + 1, 0, none⟩)] V fun e w' => e = .returned (.int .i64 L.length) ∧ w' = V := fun V hb => by
          have := lenE (hTW.mE.below hb)
          rw [vals_length] at this
          exact this
        have hlenG : ∀ ty, (Builtin.len_ #[80] ty #[.map (some (w.heap.size + 1 + 1 + 1 + 1))]).run Try.prog W.drew = .ok (.int .i64 L.length) W.drew := fun ty => by
          have := (ownsMap_same (w' := W.drew) hTW.rest.own rfl).len Try.underlying80 ty
          rwa [hTW.rest.ag.size, vals_length] at this
        have hb0 : Below W.heap.size W W.drew := (Below.refl _ _).drew
        have cG := hTW.rest.bG.cell
        have cE := hTW.rest.bE.cell
        have HLD := Lib.hid hld
        have HLE := Lib.hid hle
        have HTW := Lib.hid hTW
        have HBW := Lib.hid hbW
        have HK := Lib.hid hK
        clear hld hle hTW hbW hK hbl hseq
        refine hKd _ _ ?_
        gi_wp2_with fail
        refine wpIn_wide.2 ?_
        have hldQ := HLD.out W.drew hb0
        have hleQ := HLE.out W.drew hb0
        refine wp_region_still_tail 13 (by kernel_rfl) (by kernel_rfl) ?_
        show wpStill _ _ W.drew _ _ _
        simp only [List.take_succ_cons, List.take_zero, List.drop_succ_cons, List.drop_zero]
        repeat (first | still_step | still_call hldQ | still_call hleQ)
        refine wpStill_nil ?_
        show wpList _ _ _ _ _ W.drew
        have HWQ : Hid (∀ V, Below W.drew.heap.size W.drew V → TyP V w.heap.size _ L D) := Lib.hid fun V hb => HTW.out.rest.below (hb0.trans hb)
        generalize W.drew = WQ at *
        go_wp2_with (go_at_call 15; refine (works3_any _).mono ?_; rintro e w9 ⟨rfl, hb9⟩; have hr9 := HWQ.out _ hb9; have c9 := hr9.res.cell; have f9 := hr9.res.frozen; have HB9 := Lib.hid hb9; clear hr9 hb9)
        gi_wp2_with fail
        have hb09 : Below W.heap.size W w9 := hb0.trans (HB9.out.mono hb0.size)
        have hDl := (Array.getElem?_eq_some_iff.1 HK.out).1
        have hK2 := (hb09.block _ hDl).trans HK.out
        have hz := HBW.out.size
        have hzw := HBw.out.size
        have hz9 := hb09.size
        have hK' := (KeepsOthers.setCell w9 ⟨w.heap.size, 0, none⟩ (.bool true)).same D' _ hK2 rfl
        refine ⟨by simp, .inl ⟨_, _, rfl, run_takeDeferred hK', ?_⟩⟩
        have hc5 := cell_kept (World.cell?_setCell_same' w9 ⟨w.heap.size, 0, none⟩ (.bool true) (by rw [c9]; rfl)) (grownBy_putObj' _ D' (.deferred none)) (fun r e => by cases e; exact ⟨_, hK', rfl⟩)
        refine ⟨.bool true, ?_, rfl, ?_⟩
        · simp [results, Try.f7, go_sem, hc5]
        · have hb := ((HBw.out.trans (HBW.out.mono (by omega))).trans (hb09.mono (by omega))).setCell (p := ⟨w.heap.size, 0, none⟩) (Nat.le_refl _) (.bool true)
          exact hb.grown (grownBy_putObj' _ D' (.deferred none)) (by have h8 : (w9.setCell ⟨w.heap.size, 0, none⟩ (.bool true)).heap.size = w9.heap.size := World.size_setCell ..; omega) (fun k e => by cases e; omega)
      case stop =>
        rintro D c pre W hD hpre ⟨rfl, hnot⟩ hK
        exact absurd hpre hnot
end Go.Proofs.Ytpnhklehpilopaa
