/- ValueLarge, ValueBack, ValueReads: the walks, over the contracts of package value. -/
import Derived.Test.YtjadlianlnaomaaDoorValApi
namespace Go.Proofs.YtjadlianlnaomaaDoor
open Go Go.RowKit

theorem hexI_ge (l : List Int) (h : ∀ x ∈ l, 0 ≤ x ∧ x < 256) : ∀ y ∈ hexI l, 48 ≤ y := by
  intro y hy
  unfold hexI at hy
  rw [List.mem_flatMap] at hy
  obtain ⟨x, hx, hy⟩ := hy
  have := h x hx
  simp only [List.mem_cons, List.not_mem_nil, or_false] at hy
  rcases hy with rfl | rfl <;> (unfold dgI; split <;> omega)

theorem hexI_append (a b : List Int) : hexI (a ++ b) = hexI a ++ hexI b := by simp [hexI]

theorem vParse_hex (s : ByteArray) (h0 : s.size ≠ 0) (h1 : s.size ≤ 512) : vParse (strI (hexI (numS s))) = (s, 0) := by
  have hn := numS_strI (hexI (numS s)) (hexI_rng _ (numS_rng s))
  have hp := ph_hexI (numS s) (numS_rng s)
  have hsz : (strI (hexI (numS s))).size = 2 * s.size := by rw [strI_size, hexI_length, numS_length]
  unfold vParse
  rw [hn, hp.1, hp.2, hsz, if_neg, if_neg, if_neg, strI_numS]
  · omega
  · rintro (h | h)
    · omega
    · cases h
  · intro h
    have := congrArg List.length h
    rw [hexI_length, numS_length] at this
    simp at this
    omega

theorem vParse_cut (s : ByteArray) (h0 : s.size ≠ 0) : vParse ((strI (hexI (numS s))).extract 1 (2 * s.size)) = (⟨#[]⟩, 8) := by
  have hn := numS_strI (hexI (numS s)) (hexI_rng _ (numS_rng s))
  have he := numS_extract (strI (hexI (numS s))) 1 (2 * s.size)
  rw [hn] at he
  have hl : (hexI (numS s)).length = 2 * s.size := by rw [hexI_length, numS_length]
  have htk : (hexI (numS s)).take (2 * s.size) = hexI (numS s) := List.take_of_length_le (by omega)
  rw [htk] at he
  have hlen : ((hexI (numS s)).drop 1).length = 2 * s.size - 1 := by rw [List.length_drop, hl]
  unfold vParse
  rw [he, if_neg, if_pos]
  · right
    cases hh : phOk ((hexI (numS s)).drop 1) with
    | false => rfl
    | true => have := phOk_even _ hh; omega
  · intro h
    have hm : (45 : Int) ∈ (hexI (numS s)).drop 1 := by rw [h]; simp
    have := hexI_ge _ (numS_rng s) 45 (List.mem_of_mem_drop hm)
    omega

set_option maxHeartbeats 1600000 in
set_option maxRecDepth 100000 in
theorem valueLarge_any {L : World → Prop} (H : ValOk L) (s : ByteArray) (M F : Nat) (w : World) (h : L w) (hM : M < 65536) (hF : F < 65536) :
    Calls Tryd.prog 11 #[.string s, .int .u16 M, .int .u16 F] w fun e w' => e = .returned (.bool true) ∧ Below w.heap.size w w' := by
  have HL := Lib.hid h
  have HH := Lib.hid H
  clear h H
  by_cases hbig : 1000 < s.size
  · go_enter Tryd.func11, Tryd.ntmps11
    go_wp2_with fail
    refine (works6_any HH.out _ HL.out).mono ?_
    rintro e w1 ⟨rfl, hb⟩
    go_wp2_with fail
    go_ret
    exact ⟨rfl, hb⟩
  obtain ⟨k, hk⟩ : ∃ k : Nat, (M : Int) % 600 = (k : Int) := ⟨M % 600, by omega⟩
  have hk6 : k < 600 := by omega
  by_cases h5 : 512 < k
  · go_enter Tryd.func11, Tryd.ntmps11
    go_wp2_with fail
    refine (HH.out.checkv 2 (by omega) (by omega) (by omega) HL.out (by unfold vCheck; rw [if_pos (.inr (by omega))])).mono ?_
    rintro e w1 ⟨rfl, hl, hb⟩
    have HL1 := Lib.hid hl
    have HB1 := Lib.hid hb
    clear hl hb HL
    go_wp2_with fail
    refine (works6_any HH.out _ HL1.out).mono ?_
    rintro e w2 ⟨rfl, hb⟩
    go_wp2_with fail
    go_ret
    exact ⟨rfl, below_then2 HB1.out hb⟩
  by_cases h6 : k < s.size
  · go_enter Tryd.func11, Tryd.ntmps11
    go_wp2_with fail
    refine (HH.out.checkv 12 (by omega) (by omega) (by omega) HL.out (by unfold vCheck; rw [if_neg (by omega), if_pos (by omega)])).mono ?_
    rintro e w1 ⟨rfl, hl, hb⟩
    have HL1 := Lib.hid hl
    have HB1 := Lib.hid hb
    clear hl hb HL
    have hle : ¬ s.size ≤ k := by omega
    go_wp2_with fail
    refine (HH.out.checkv 2 (by omega) (by omega) (by omega) HL1.out (by unfold vCheck; rw [if_pos (.inl (by omega))])).mono ?_
    rintro e w2 ⟨rfl, hl, hb⟩
    have HL2 := Lib.hid hl
    have HB2 := Lib.hid (below_then2 HB1.out hb)
    clear hl hb HL1 HB1
    go_wp2_with fail
    refine (HH.out.checkv 2 (by omega) (by omega) (by omega) HL2.out (by unfold vCheck; rw [if_pos (.inr (by omega))])).mono ?_
    rintro e w3 ⟨rfl, hl, hb⟩
    have HL3 := Lib.hid hl
    have HB3 := Lib.hid (below_then2 HB2.out hb)
    clear hl hb HL2 HB2
    go_wp2_with fail
    refine (works6_any HH.out _ HL3.out).mono ?_
    rintro e w4 ⟨rfl, hb⟩
    go_wp2_with fail
    go_ret
    exact ⟨rfl, below_then2 HB3.out hb⟩
  · go_enter Tryd.func11, Tryd.ntmps11
    go_wp2_with fail
    refine (HH.out.checkv 0 (by omega) (by omega) (by omega) HL.out (by unfold vCheck; rw [if_neg (by omega), if_neg (by omega)])).mono ?_
    rintro e w1 ⟨rfl, hl, hb⟩
    have HL1 := Lib.hid hl
    have HB1 := Lib.hid hb
    clear hl hb HL
    have hle : s.size ≤ k := by omega
    go_wp2_with fail
    refine (HH.out.checkv 2 (by omega) (by omega) (by omega) HL1.out (by unfold vCheck; rw [if_pos (.inl (by omega))])).mono ?_
    rintro e w2 ⟨rfl, hl, hb⟩
    have HL2 := Lib.hid hl
    have HB2 := Lib.hid (below_then2 HB1.out hb)
    clear hl hb HL1 HB1
    go_wp2_with fail
    refine (HH.out.checkv 2 (by omega) (by omega) (by omega) HL2.out (by unfold vCheck; rw [if_pos (.inr (by omega))])).mono ?_
    rintro e w3 ⟨rfl, hl, hb⟩
    have HL3 := Lib.hid hl
    have HB3 := Lib.hid (below_then2 HB2.out hb)
    clear hl hb HL2 HB2
    go_wp2_with fail
    refine (works6_any HH.out _ HL3.out).mono ?_
    rintro e w4 ⟨rfl, hb⟩
    go_wp2_with fail
    go_ret
    exact ⟨rfl, below_then2 HB3.out hb⟩

set_option maxHeartbeats 1600000 in
set_option maxRecDepth 100000 in
theorem valueBack_any {L : World → Prop} (H : ValOk L) (s : ByteArray) (w : World) (h : L w) :
    Calls Tryd.prog 7 #[.string s] w fun e w' => e = .returned (.bool true) ∧ Below w.heap.size w w' := by
  have HL := Lib.hid h
  have HH := Lib.hid H
  clear h H
  by_cases hbig : 600 < s.size
  · go_enter Tryd.func7, Tryd.ntmps7
    go_wp2_with fail
    refine (works6_any HH.out _ HL.out).mono ?_
    rintro e w1 ⟨rfl, hb⟩
    go_wp2_with fail
    go_ret
    exact ⟨rfl, hb⟩
  by_cases h5 : 512 < s.size
  · go_enter Tryd.func7, Tryd.ntmps7
    go_wp2_with fail
    refine (HH.out.textv ⟨#[]⟩ 12 (by omega) HL.out (by unfold vTextS; rw [if_pos h5]) (by unfold vTextE; rw [if_pos h5])).mono ?_
    rintro e w1 ⟨rfl, hl, hb⟩
    have HL1 := Lib.hid hl
    have HB1 := Lib.hid hb
    clear hl hb HL
    go_wp2_with fail
    refine (works6_any HH.out _ HL1.out).mono ?_
    rintro e w2 ⟨rfl, hb⟩
    go_wp2_with fail
    go_ret
    exact ⟨rfl, below_then2 HB1.out hb⟩
  by_cases h0 : s.size = 0
  · have hs := size_zero s h0
    subst hs
    clear hbig h5 h0
    go_enter Tryd.func7, Tryd.ntmps7
    go_wp2_with fail
    refine (HH.out.textv ⟨#[45]⟩ 0 (by decide) HL.out (by decide +kernel) (by decide)).mono ?_
    rintro e w1 ⟨rfl, hl, hb⟩
    have HL1 := Lib.hid hl
    have HB1 := Lib.hid hb
    clear hl hb HL
    go_wp2_with fail
    refine (HH.out.parsev ⟨#[]⟩ 0 (by decide) HL1.out (by decide +kernel)).mono ?_
    rintro e w2 ⟨rfl, hl, hb⟩
    have HL2 := Lib.hid hl
    have HB2 := Lib.hid (below_then2 HB1.out hb)
    clear hl hb HL1 HB1
    go_wp2_with fail
    refine (HH.out.parsev ⟨#[]⟩ 8 (by decide) HL2.out (by decide +kernel)).mono ?_
    rintro e w3 ⟨rfl, hl, hb⟩
    have HL3 := Lib.hid hl
    have HB3 := Lib.hid (below_then2 HB2.out hb)
    clear hl hb HL2 HB2
    go_wp2_with fail
    refine (works6_any HH.out _ HL3.out).mono ?_
    rintro e w4 ⟨rfl, hb⟩
    go_wp2_with fail
    go_ret
    exact ⟨rfl, below_then2 HB3.out hb⟩
  · have hp1 := vParse_hex s h0 (by omega)
    have hp2 := vParse_cut s h0
    have hsz : (strI (hexI (numS s))).size = 2 * s.size := by rw [strI_size, hexI_length, numS_length]
    have ht : vTextS s = strI (hexI (numS s)) := by unfold vTextS; rw [if_neg h5, if_neg h0]
    have HT := Lib.hid ht
    have HP1 := Lib.hid hp1
    have HP2 := Lib.hid hp2
    clear ht hp1 hp2
    generalize strI (hexI (numS s)) = T at *
    have hsi : (T.size : Int) = 2 * (s.size : Int) := by omega
    have hpos : 0 < (s.size : Int) := by omega
    have hz : ((s.size : Int) == 0) = false := by rw [beq_eq_false_iff_ne]; omega
    have hlt : T.size ≤ 1024 := by omega
    have HSz := Lib.hid hsz
    clear hsz h0
    go_enter Tryd.func7, Tryd.ntmps7
    go_wp2_with fail
    refine (HH.out.textv T 0 (by omega) HL.out HT.out (by unfold vTextE; rw [if_neg h5])).mono ?_
    rintro e w1 ⟨rfl, hl, hb⟩
    have HL1 := Lib.hid hl
    have HB1 := Lib.hid hb
    clear hl hb HL
    go_wp2_with fail
    refine (HH.out.parsev s 0 (by omega) HL1.out HP1.out).mono ?_
    rintro e w2 ⟨rfl, hl, hb⟩
    have HL2 := Lib.hid hl
    have HB2 := Lib.hid (below_then2 HB1.out hb)
    clear hl hb HL1 HB1
    go_wp2_with fail
    refine (HH.out.parsev ⟨#[]⟩ 8 (by rw [ByteArray.size_extract]; omega) HL2.out (by rw [HSz.out]; exact HP2.out)).mono ?_
    rintro e w3 ⟨rfl, hl, hb⟩
    have HL3 := Lib.hid hl
    have HB3 := Lib.hid (below_then2 HB2.out hb)
    clear hl hb HL2 HB2
    go_wp2_with fail
    refine (works6_any HH.out _ HL3.out).mono ?_
    rintro e w4 ⟨rfl, hb⟩
    go_wp2_with fail
    go_ret
    exact ⟨rfl, below_then2 HB3.out hb⟩

theorem vParse_ok (t : ByteArray) (h : (vParse t).2 = 0) : vTextS (vParse t).1 = t ∧ vTextE (vParse t).1 = 0 ∧ (vParse t).1.size ≤ 512 := by
  have ht := strI_numS t
  unfold vParse at h ⊢
  by_cases h1 : numS t = [45]
  · rw [if_pos h1]
    rw [h1] at ht
    refine ⟨?_, by decide, by decide⟩
    rw [← ht]
    decide +kernel
  · rw [if_neg h1] at h ⊢
    by_cases h2 : t.size = 0 ∨ phOk (numS t) = false
    · rw [if_pos h2] at h; exact absurd h (by decide)
    · rw [if_neg h2] at h ⊢
      by_cases h3 : 1024 < t.size
      · rw [if_pos h3] at h; exact absurd h (by decide)
      · rw [if_neg h3]
        have hok : phOk (numS t) = true := by
          cases hh : phOk (numS t) with
          | true => rfl
          | false => exact absurd (.inr hh) h2
        have hsz : (strI (phV (numS t))).size = t.size / 2 := by rw [strI_size, phV_length, numS_length]
        have hev := phOk_even _ hok
        rw [numS_length] at hev
        have hn := numS_strI _ (phV_rng (numS t))
        show vTextS (strI (phV (numS t))) = t ∧ vTextE (strI (phV (numS t))) = 0 ∧ (strI (phV (numS t))).size ≤ 512
        refine ⟨?_, ?_, by omega⟩
        · unfold vTextS
          rw [if_neg (by omega), if_neg (by omega), hn, hexI_phV _ hok, ht]
        · unfold vTextE
          rw [if_neg (by omega)]

theorem vParse_bad (t : ByteArray) (h : (vParse t).2 ≠ 0) : (vParse t).1 = ⟨#[]⟩ ∧ ((vParse t).2 = 8 ∨ ((vParse t).2 = 12 ∧ 1024 < t.size)) := by
  unfold vParse at h ⊢
  by_cases h1 : numS t = [45]
  · rw [if_pos h1] at h; exact absurd rfl h
  · rw [if_neg h1] at h ⊢
    by_cases h2 : t.size = 0 ∨ phOk (numS t) = false
    · rw [if_pos h2]; exact ⟨rfl, .inl rfl⟩
    · rw [if_neg h2] at h ⊢
      by_cases h3 : 1024 < t.size
      · rw [if_pos h3]; exact ⟨rfl, .inr ⟨rfl, h3⟩⟩
      · rw [if_neg h3] at h; exact absurd rfl h

set_option maxHeartbeats 1600000 in
set_option maxRecDepth 100000 in
theorem valueReads_any {L : World → Prop} (H : ValOk L) (t : ByteArray) (w : World) (h : L w) :
    Calls Tryd.prog 8 #[.string t] w fun e w' => e = .returned (.bool true) ∧ Below w.heap.size w w' := by
  have HL := Lib.hid h
  have HH := Lib.hid H
  clear h H
  by_cases hbig : 1200 < t.size
  · go_enter Tryd.func8, Tryd.ntmps8
    go_wp2_with fail
    refine (works6_any HH.out _ HL.out).mono ?_
    rintro e w1 ⟨rfl, hb⟩
    go_wp2_with fail
    go_ret
    exact ⟨rfl, hb⟩
  by_cases hok : (vParse t).2 = 0
  · obtain ⟨p1, p2, p3⟩ := vParse_ok t hok
    obtain ⟨s, hs⟩ : ∃ s, s = (vParse t).1 := ⟨_, rfl⟩
    have hv : vParse t = (s, 0) := by rw [hs, ← hok]
    rw [← hs] at p1 p2 p3
    have HV := Lib.hid hv
    have HP := Lib.hid (And.intro p1 p2)
    clear hok hs hv p1 p2
    go_enter Tryd.func8, Tryd.ntmps8
    go_wp2_with fail
    refine (HH.out.parsev s 0 (by omega) HL.out HV.out).mono ?_
    rintro e w1 ⟨rfl, hl, hb⟩
    have HL1 := Lib.hid hl
    have HB1 := Lib.hid hb
    clear hl hb HL
    go_wp2_with fail
    refine (HH.out.textv t 0 (by omega) HL1.out HP.out.1 HP.out.2).mono ?_
    rintro e w2 ⟨rfl, hl, hb⟩
    have HL2 := Lib.hid hl
    have HB2 := Lib.hid (below_then2 HB1.out hb)
    clear hl hb HL1 HB1
    go_wp2_with fail
    refine (HH.out.checkv 0 (by omega) (by decide) (by decide) HL2.out (by unfold vCheck; rw [if_neg (by decide), if_neg (by omega)])).mono ?_
    rintro e w3 ⟨rfl, hl, hb⟩
    have HL3 := Lib.hid hl
    have HB3 := Lib.hid (below_then2 HB2.out hb)
    clear hl hb HL2 HB2
    go_wp2_with fail
    refine (works6_any HH.out _ HL3.out).mono ?_
    rintro e w4 ⟨rfl, hb⟩
    go_wp2_with fail
    go_ret
    exact ⟨rfl, below_then2 HB3.out hb⟩
  · obtain ⟨q1, q2⟩ := vParse_bad t hok
    rcases q2 with q2 | ⟨q2, q3⟩
    · have HV : Hid (vParse t = (⟨#[]⟩, 8)) := by show vParse t = _; rw [← q1, ← q2]
      clear hok q1 q2
      go_enter Tryd.func8, Tryd.ntmps8
      go_wp2_with fail
      refine (HH.out.parsev ⟨#[]⟩ 8 (by omega) HL.out HV.out).mono ?_
      rintro e w1 ⟨rfl, hl, hb⟩
      have HL1 := Lib.hid hl
      have HB1 := Lib.hid hb
      clear hl hb HL
      go_wp2_with fail
      refine (works6_any HH.out _ HL1.out).mono ?_
      rintro e w4 ⟨rfl, hb⟩
      go_wp2_with fail
      go_ret
      exact ⟨rfl, below_then2 HB1.out hb⟩
    · have HV : Hid (vParse t = (⟨#[]⟩, 12)) := by show vParse t = _; rw [← q1, ← q2]
      clear hok q1 q2
      go_enter Tryd.func8, Tryd.ntmps8
      go_wp2_with fail
      refine (HH.out.parsev ⟨#[]⟩ 12 (by omega) HL.out HV.out).mono ?_
      rintro e w1 ⟨rfl, hl, hb⟩
      have HL1 := Lib.hid hl
      have HB1 := Lib.hid hb
      clear hl hb HL
      go_wp2_with fail
      refine (works6_any HH.out _ HL1.out).mono ?_
      rintro e w4 ⟨rfl, hb⟩
      go_wp2_with fail
      go_ret
      exact ⟨rfl, below_then2 HB1.out hb⟩
end Go.Proofs.YtjadlianlnaomaaDoor
