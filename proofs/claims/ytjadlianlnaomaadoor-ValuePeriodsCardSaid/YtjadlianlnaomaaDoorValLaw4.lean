/- ValuePeriods: the walk, over the contracts of package value. -/
import Derived.Test.YtjadlianlnaomaaDoorValApi
import Derived.Deep.QuietTactic
import Derived.BigQuiet
namespace Go.Proofs.YtjadlianlnaomaaDoor
open Go Go.RowKit

theorem repI_take (l : List Int) (n m : Nat) (h : m ≤ n) : (repI l n).take m = repI l m := by
  unfold repI
  rw [← List.map_take]
  congr 1
  rw [List.take_range, Nat.min_eq_left h]

theorem repI_at (l : List Int) (n i : Nat) (h : i < n) : (repI l n).getD i 0 = l.getD (i % l.length) 0 := by
  unfold repI
  simp [List.getD, h]

set_option maxHeartbeats 3200000 in
set_option maxRecDepth 100000 in
theorem valuePeriods_any {L : World → Prop} (H : ValOk L) (p : ByteArray) (n m : Nat) (w : World) (h : L w) (hn : n < 65536) (hm : m < 65536) :
    Calls Tryd.prog 10 #[.string p, .int .u16 n, .int .u16 m] w fun e w' => e = .returned (.bool true) ∧ Below w.heap.size w w' := by
  have HL := Lib.hid h
  have HH := Lib.hid H
  clear h H
  have hie := isEmpty_s p
  by_cases hbig : 600 < p.size ∨ p.size = 0
  · have ho : 600 < p.size ∨ (¬ 600 < p.size ∧ p.toList.isEmpty = true) := by
      by_cases h6 : 600 < p.size
      · exact .inl h6
      · refine .inr ⟨h6, ?_⟩
        rw [hie]; exact decide_eq_true (by omega)
    clear hie hbig
    rcases ho with h6 | ⟨h6, hie⟩
    all_goals
      go_enter Tryd.func10, Tryd.ntmps10
      go_wp2_with fail
      refine (HH.out.repv ⟨#[]⟩ 2 (by decide) (by omega) (by omega) HL.out (by unfold vRepeat; rw [if_pos (.inr ⟨rfl, by omega⟩)])).mono ?_
      rintro e w1 ⟨rfl, hl, hb⟩
      have HL1 := Lib.hid hl
      have HB1 := Lib.hid hb
      clear hl hb HL
      go_wp2_with fail
      refine (HH.out.repv ⟨#[]⟩ 0 (by decide) (by omega) (by omega) HL1.out (by decide +kernel)).mono ?_
      rintro e w2 ⟨rfl, hl, hb⟩
      have HL2 := Lib.hid hl
      have HB2 := Lib.hid (below_then2 HB1.out hb)
      clear hl hb HL1 HB1
      go_wp2_with fail
      refine (works6_any HH.out _ HL2.out).mono ?_
      rintro e w3 ⟨rfl, hb⟩
      go_wp2_with fail
      go_ret
      exact ⟨rfl, below_then2 HB2.out hb⟩
  rw [decide_eq_false (by omega)] at hie
  obtain ⟨k, hk⟩ : ∃ k : Nat, (n : Int) % 600 = (k : Int) := ⟨n % 600, by omega⟩
  have hk6 : k < 600 := by omega
  by_cases h5 : 512 < k
  · go_enter Tryd.func10, Tryd.ntmps10
    go_wp2_with fail
    refine (HH.out.repv ⟨#[]⟩ 12 (by omega) (by omega) (by omega) HL.out (by unfold vRepeat; rw [if_neg (by omega), if_pos (by omega)])).mono ?_
    rintro e w1 ⟨rfl, hl, hb⟩
    have HL1 := Lib.hid hl
    have HB1 := Lib.hid hb
    clear hl hb HL
    go_wp2_with fail
    refine (works6_any HH.out _ HL1.out).mono ?_
    rintro e w2 ⟨rfl, hb⟩
    go_wp2_with fail
    go_ret
    exact ⟨rfl, below_then2 HB1.out hb⟩
  obtain ⟨m6, hm6⟩ : ∃ m6 : Nat, (m : Int) % 600 = (m6 : Int) := ⟨m % 600, by omega⟩
  obtain ⟨mm, hmm⟩ : ∃ mm : Nat, min (k : Int) (m6 : Int) = (mm : Int) := ⟨min k m6, by omega⟩
  have hmk : mm ≤ k := by omega
  have hN := numS_length p
  have hrg : ∀ q, ∀ y ∈ repI (numS p) q, 0 ≤ y ∧ y < 256 := fun q => repI_rng _ (numS_rng p) q (.inl fun h0 => by rw [h0] at hN; simp at hN; omega)
  have hnS : ∀ q, numS (strI (repI (numS p) q)) = repI (numS p) q := fun q => numS_strI _ (hrg q)
  have hsz : ∀ q, (strI (repI (numS p) q)).size = q := fun q => by rw [strI_size, repI_length]
  have hext : (strI (repI (numS p) k)).extract 0 mm = strI (repI (numS p) mm) := by rw [extract_strI, hnS, List.drop_zero, repI_take _ _ _ hmk]
  have HIx : Hid (∀ i, i < k → ∀ w, (Instr.index 9 (.string (strI (repI (numS p) k))) (.int .i64 i)).run Tryd.prog w = .ok (.int .u8 ((numS p).getD (i % p.size) 0)) w) := by
    intro i hi w
    have := index_s (strI (repI (numS p) k)) i (by rw [hsz]; exact hi) w
    rw [hnS, repI_at _ _ _ hi, hN] at this
    exact this
  have HIp := Lib.hid (index_s p)
  have HR1 : Hid (vRepeat p k = (strI (repI (numS p) k), 0)) := by show vRepeat p k = _; unfold vRepeat; rw [if_neg (by omega), if_neg (by omega)]; rfl
  have HR2 : Hid (vRepeat p mm = (strI (repI (numS p) mm), 0)) := by show vRepeat p mm = _; unfold vRepeat; rw [if_neg (by omega), if_neg (by omega)]; rfl
  have hsk := hsz k
  have HEx := Lib.hid hext
  clear hN hrg hnS hsz hext
  generalize strI (repI (numS p) k) = S at *
  generalize strI (repI (numS p) mm) = T at *
  have hski : (S.size : Int) = (k : Int) := by omega
  have HSk := Lib.hid hsk
  have hp6 : p.size ≤ 600 := by omega
  have hp0 : 0 < p.size := by omega
  clear hsk hbig
  go_enter Tryd.func10, Tryd.ntmps10
  go_wp2_with fail
  refine (HH.out.repv S 0 (by omega) (by omega) (by omega) HL.out HR1.out).mono ?_
  rintro e w1 ⟨rfl, hl, hb⟩
  have HL1 := Lib.hid hl
  have HB1 := Lib.hid hb
  clear hl hb HL
  go_wp2_with fail
  go_loopw [14] (fun i wr => ∃ q : Nat, q ≤ k ∧ i = .int .i64 q ∧ Hid (L wr ∧ Below w.heap.size w wr)) (fun i _ => k - (intOf i).toNat)
  case atStart => exact ⟨0, by omega, rfl, HL1.out, HB1.out⟩
  case round =>
    clear HL1 HB1
    obtain ⟨q, hq, rfl, HR⟩ := hrel
    by_cases hlt : q < k
    · have ix1 := HIx.out q hlt
      have HRd : Hid (L wr.drew ∧ Below w.heap.size w wr.drew) := ⟨HH.out.below _ _ HR.out.1 (Below.refl _ _).drew, HR.out.2.drew⟩
      have hq0 : (0 : Int) ≤ (q : Int) := by omega
      have hqk : (q : Int) < (k : Int) := by omega
      by_cases hlp : q < p.size
      · have ix2 := HIp.out q hlp
        rw [Nat.mod_eq_of_lt hlp] at ix1
        generalize (numS p).getD q 0 = x at *
        have hqp : (q : Int) < (p.size : Int) := by omega
        have hnl : ¬ p.size ≤ q := by omega
        go_wp2_with fail
        go_quiet (fail)
        rename_i nq
        have HN : Hid (L (wr.drewN nq) ∧ Below w.heap.size w (wr.drewN nq)) := ⟨HH.out.below _ _ HR.out.1 (below_drewN (Below.refl _ _) nq), below_drewN HR.out.2 nq⟩
        generalize wr.drewN nq = wz at *
        go_wp2_with fail
        go_roundw
        case rel => exact ⟨q + 1, by omega, by go_num, HN⟩
        case measure => simp [intOf]; omega
      · have ix2 := HIx.out (q - p.size) (by omega)
        rw [← Nat.mod_eq_sub_mod (by omega)] at ix2
        obtain ⟨qq, hqq⟩ : ∃ qq, qq = q - p.size := ⟨_, rfl⟩
        rw [← hqq] at ix2
        have hsub : (q : Int) - (p.size : Int) = (qq : Int) := by omega
        generalize (numS p).getD (q % p.size) 0 = x at *
        have hqp : ¬ (q : Int) < (p.size : Int) := by omega
        have hge : p.size ≤ q := by omega
        clear hqq
        go_wp2_with fail
        go_quiet (fail)
        rename_i nq
        have HN : Hid (L (wr.drewN nq) ∧ Below w.heap.size w (wr.drewN nq)) := ⟨HH.out.below _ _ HR.out.1 (below_drewN (Below.refl _ _) nq), below_drewN HR.out.2 nq⟩
        generalize wr.drewN nq = wz at *
        go_wp2_with fail
        go_roundw
        case rel => exact ⟨q + 1, by omega, by go_num, HN⟩
        case measure => simp [intOf]; omega
    · have hqk : q = k := by omega
      subst hqk
      have hext := HEx.out
      go_wp2_with fail
      refine (HH.out.repv T 0 (by omega) (by omega) (by omega) HR.out.1 HR2.out).mono ?_
      rintro e w2 ⟨rfl, hl, hb⟩
      have HL2 := Lib.hid hl
      have HB2 := Lib.hid (HR.out.2.trans (hb.mono HR.out.2.size))
      clear hl hb HR
      have hmki : (mm : Int) ≤ (S.size : Int) := by omega
      have hmm0 : (0 : Int) ≤ (mm : Int) := by omega
      go_wp2_with fail
      refine (works6_any HH.out _ HL2.out).mono ?_
      rintro e w3 ⟨rfl, hb⟩
      go_wp2_with fail
      go_ret
      exact ⟨rfl, below_then2 HB2.out hb⟩
end Go.Proofs.YtjadlianlnaomaaDoor
