/- The document's own functions on values (drumlinref06): Text, Parse. -/
import Derived.Test.YtjadlianlnaomaaDoorValRef
namespace Go.Proofs.YtjadlianlnaomaaDoor
open Go Go.RowKit

/-- What Text returns. -/
def vTextS (s : ByteArray) : ByteArray := if 512 < s.size then ⟨#[]⟩ else if s.size = 0 then ⟨#[45]⟩ else strI (hexI (numS s))
def vTextE (s : ByteArray) : Int := if 512 < s.size then 12 else 0

/-- What Parse returns. -/
def vParse (s : ByteArray) : ByteArray × Int :=
  if numS s = [45] then (⟨#[]⟩, 0) else if s.size = 0 ∨ phOk (numS s) = false then (⟨#[]⟩, 8) else if 1024 < s.size then (⟨#[]⟩, 12) else (strI (phV (numS s)), 0)

theorem size_zero (s : ByteArray) (h : s.size = 0) : s = ⟨#[]⟩ := by
  have h1 : numS s = [] := List.eq_nil_of_length_eq_zero (by rw [numS_length]; exact h)
  have h2 := strI_numS s
  rw [h1] at h2
  exact h2.symm

theorem isEmpty_s (s : ByteArray) : s.toList.isEmpty = decide (s.size = 0) := by
  rw [Go.ByteArray.toList_eq]
  by_cases h : s.size = 0
  · rw [size_zero s h]; rfl
  · rw [decide_eq_false h]
    cases hl : s.data.toList with
    | nil =>
      exfalso; apply h
      have : s.data.toList.length = 0 := by rw [hl]; rfl
      simpa using this
    | cons _ _ => rfl

theorem beq_dash (s : ByteArray) : (s.toList == [45]) = decide (numS s = [45]) := str_const s [45]

theorem rvText_any (s : ByteArray) (w : World) (hl : s.size ≤ 1000000) :
    Calls Tryd.prog 17 #[.string s] w fun e w' => e = .returned (.tuple #[.string (vTextS s), .int .i64 (vTextE s)]) ∧ Below w.heap.size w w' := by
  unfold vTextS vTextE
  have hbe := isEmpty_s s
  by_cases h1 : 512 < s.size
  · rw [if_pos h1, if_pos h1]
    go_enter Tryd.func17, Tryd.ntmps17
    go_wp2_with fail
    go_ret2
    exact ⟨rfl, Below.refl _ _⟩
  · rw [if_neg h1, if_neg h1]
    by_cases h2 : s.size = 0
    · rw [if_pos h2]
      rw [decide_eq_true h2] at hbe
      have hs := size_zero s h2
      subst hs
      clear h2 hl h1
      go_enter Tryd.func17, Tryd.ntmps17
      go_wp2_with fail
      go_ret2
      exact ⟨rfl, Below.refl _ _⟩
    · rw [if_neg h2]
      rw [decide_eq_false h2] at hbe
      have HH := Lib.hid (rvhex_any s w hl)
      clear h2
      go_enter Tryd.func17, Tryd.ntmps17
      go_wp2_with fail
      refine HH.out.mono ?_
      rintro e w1 ⟨rfl, hb⟩
      go_wp2_with fail
      go_ret2
      exact ⟨rfl, hb⟩

set_option maxHeartbeats 1600000 in
set_option maxRecDepth 100000 in
theorem rvParse_any (s : ByteArray) (w : World) (hl : s.size ≤ 1000000) :
    Calls Tryd.prog 19 #[.string s] w fun e w' => e = .returned (.tuple #[.string (vParse s).1, .int .i64 (vParse s).2]) ∧ Below w.heap.size w w' := by
  unfold vParse
  have hbd := beq_dash s
  by_cases h1 : numS s = [45]
  · rw [if_pos h1]
    rw [decide_eq_true h1] at hbd
    clear h1
    go_enter Tryd.func19, Tryd.ntmps19
    go_wp2_with fail
    go_ret2
    exact ⟨rfl, Below.refl _ _⟩
  rw [if_neg h1]
  rw [decide_eq_false h1] at hbd
  clear h1
  by_cases h2 : s.size = 0
  · rw [if_pos (.inl h2)]
    have h2i : (s.size : Int) = 0 := by omega
    clear h2
    go_enter Tryd.func19, Tryd.ntmps19
    go_wp2_with fail
    go_ret2
    exact ⟨rfl, Below.refl _ _⟩
  have hpos : ((s.size : Int) == 0) = false := by rw [beq_eq_false_iff_ne]; omega
  by_cases h3 : s.size % 2 = 1
  · have hodd : phOk (numS s) = false := by
      cases hh : phOk (numS s) with
      | false => rfl
      | true => have := phOk_even _ hh; rw [numS_length] at this; omega
    rw [if_pos (.inr hodd)]
    have h3i : (s.size : Int) % 2 = 1 := by omega
    clear h3 h2
    go_enter Tryd.func19, Tryd.ntmps19
    go_wp2_with fail
    go_ret2
    exact ⟨rfl, Below.refl _ _⟩
  have hev : (s.size : Int) % 2 = 0 := by omega
  obtain ⟨m, hm⟩ : ∃ m : Nat, s.size = 2 * m := ⟨s.size / 2, by omega⟩
  have HM := Lib.hid hm
  have hmi : (s.size : Int) = 2 * (m : Int) := by omega
  obtain ⟨i0, hi, hz0, hz1, hz2⟩ := info_parts Tryd.infoB
  have HX := Lib.hid (numS_length s)
  have HRg := Lib.hid (numS_rng s)
  have HIx := Lib.hid (index_s s)
  have HDg := Lib.hid rvdigit_any
  have H2 := Lib.hid h2
  have hzm : (2 * (m : Int) == 0) = false := by rw [beq_eq_false_iff_ne]; omega
  obtain ⟨r, hr⟩ : ∃ r, r = (if s.size = 0 ∨ phOk (numS s) = false then ((⟨#[]⟩ : ByteArray), (8 : Int)) else if 1024 < s.size then (⟨#[]⟩, 12) else (strI (phV (numS s)), 0)) := ⟨_, rfl⟩
  rw [← hr]
  have HRes := Lib.hid hr
  clear h3 hm h2 hr
  go_enter Tryd.func19, Tryd.ntmps19
  go_wp2_with fail
  go_loopw [4, 5] (fun v i wr => ∃ j : Nat, j ≤ m ∧ i = .int .i64 (2 * (j : Int)) ∧ wr.ownsRow w.heap.size 5 1 v j ((phV ((numS s).take (2 * j))).map (Value.int .u8)) ∧ Hid (Below w.heap.size w wr ∧ phOk ((numS s).take (2 * j)) = true))
    (fun _ i _ => s.size - (intOf i).toNat)
  case atStart => exact ⟨0, Nat.zero_le _, rfl, by simpa [phV] using World.ownsRow_nil _ _ _ _, Below.refl _ _, rfl⟩
  case round =>
    obtain ⟨j, hj, rfl, hown, HR⟩ := hrel
    by_cases hlt : j < m
    · have hs2 := HM.out
      have ix0 := HIx.out (2 * j) (by omega)
      have ix1 := HIx.out (2 * j + 1) (by omega)
      have hlen : 2 * j + 1 < (numS s).length := by rw [HX.out]; omega
      have HStep := Lib.hid (ph_step (numS s) j hlen HR.out.2)
      have HBad := Lib.hid (ph_bad (numS s) j hlen HR.out.2)
      have hr0 := getD_rng HRg.out (2 * j) (by omega)
      have hr1 := getD_rng HRg.out (2 * j + 1) hlen
      generalize (numS s).getD (2 * j) 0 = a at *
      generalize (numS s).getD (2 * j + 1) 0 = b at *
      have e0 : ((2 * j : Nat) : Int) = 2 * (j : Int) := by omega
      have e1 : ((2 * j + 1 : Nat) : Int) = 2 * (j : Int) + 1 := by omega
      rw [e0] at ix0
      rw [e1] at ix1
      have da := HDg.out a wr hr0.1 hr0.2
      have db := HDg.out b wr hr1.1 hr1.2
      have hva := hv_rng a
      have hvb := hv_rng b
      obtain ⟨hva0, hva1⟩ := hva
      obtain ⟨hvb0, hvb1⟩ := hvb
      have hwb : IntKind.u8.wrap (16 * hv a + hv b) = hv a * 16 + hv b := by rw [wrap_u8 _ (by omega) (by omega)]; omega
      have hjm : 2 * (j : Int) < 2 * (m : Int) := by omega
      have hjm1 : 2 * (j : Int) + 1 < 2 * (m : Int) := by omega
      have hj0 : (0 : Int) ≤ 2 * (j : Int) := by omega
      by_cases hab : hvOk a = true ∧ hvOk b = true
      · obtain ⟨ha, hb⟩ := hab
        have hst := HStep.out ha hb
        rw [if_pos ha] at da
        rw [if_pos hb] at db
        have HDA := Lib.hid da
        have HDB := Lib.hid db
        have HSt := Lib.hid hst
        have hml : j ≤ 1000000 := by omega
        clear HStep HBad hs2 hlen e0 e1 hr0 hr1 da db hst ha hb
        generalize hv a = va at *
        generalize hv b = vb at *
        have hlt0 : ¬ va < 0 := by omega
        have hlt1 : ¬ vb < 0 := by omega
        go_wp2_with fail
        refine HDA.out.mono ?_
        rintro e w' ⟨rfl, rfl⟩
        go_wp2_with fail
        refine HDB.out.mono ?_
        rintro e w' ⟨rfl, rfl⟩
        go_wp2_with ((at_builtin; refine wpList_append_own _ rfl _ _ 35 rfl w.heap.size 5 i0 (.int .u8 0) 1 1 Tryd.underlying35 hi hz0 hz1 hz2 rfl (by decide) _ _ _ rfl (hown.alloc _) ⟨wr.heap.size, 0, none⟩ 1 1 [.int .u8 (va * 16 + vb)] rfl rfl (by intro t u ht; match t, ht with | 0, ht => simp at ht; subst ht; simp [Addr.add]) (by intro u hu; simp at hu; subst hu; rfl) (by unfold maxLen; omega) (by omega) (by have := HR.out.1.size; simp; omega) ?_; intro v' w2 hown' hgrow _))
        have hrow : ∀ q, Value.ownBlock u4 = some q → w.heap.size ≤ q := fun q hq => (hown.lt q hq).1
        have HBel2 := Lib.hid ((HR.out.1.alloc HR.out.1.size _).grown hgrow (by have := HR.out.1.size; simp; omega) hrow)
        have HO := Lib.hid hown'
        clear hown' hgrow hrow hown
        go_wp2_with fail
        go_roundw
        case rel => exact ⟨j + 1, by omega, by go_num, by rw [HSt.out.2, List.map_append]; exact HO.out, HBel2.out, HSt.out.1⟩
        case measure => simp [intOf]; omega
      · have hbad := HBad.out (by
          cases ha : hvOk a <;> cases hb : hvOk b <;> first | rfl | exact absurd ⟨ha, hb⟩ hab)
        have hres : r = (⟨#[]⟩, 8) := by rw [HRes.out, if_pos (.inr hbad)]
        subst hres
        obtain ⟨ra, hra⟩ : ∃ ra, ra = (if hvOk a = true then hv a else -1) := ⟨_, rfl⟩
        obtain ⟨rb, hrb⟩ : ∃ rb, rb = (if hvOk b = true then hv b else -1) := ⟨_, rfl⟩
        rw [← hra] at da
        rw [← hrb] at db
        have hor : ra < 0 ∨ rb < 0 := by
          cases ha : hvOk a with
          | false => left; rw [hra, ha, if_neg (by decide)]; decide
          | true =>
            cases hb : hvOk b with
            | false => right; rw [hrb, hb, if_neg (by decide)]; decide
            | true => exact absurd ⟨ha, hb⟩ hab
        have HDA := Lib.hid da
        have HDB := Lib.hid db
        clear HStep HBad hs2 hlen e0 e1 hr0 hr1 da db hbad hra hrb hwb hab HRes
        rcases hor with hor | hor
        · go_wp2_with fail
          refine HDA.out.mono ?_
          rintro e w' ⟨rfl, rfl⟩
          go_wp2_with fail
          refine HDB.out.mono ?_
          rintro e w' ⟨rfl, rfl⟩
          go_wp2_with fail
          go_ret2
          exact ⟨rfl, HR.out.1⟩
        · by_cases hra : ra < 0
          · go_wp2_with fail
            refine HDA.out.mono ?_
            rintro e w' ⟨rfl, rfl⟩
            go_wp2_with fail
            refine HDB.out.mono ?_
            rintro e w' ⟨rfl, rfl⟩
            go_wp2_with fail
            go_ret2
            exact ⟨rfl, HR.out.1⟩
          · go_wp2_with fail
            refine HDA.out.mono ?_
            rintro e w' ⟨rfl, rfl⟩
            go_wp2_with fail
            refine HDB.out.mono ?_
            rintro e w' ⟨rfl, rfl⟩
            go_wp2_with fail
            go_ret2
            exact ⟨rfl, HR.out.1⟩
    · have hjm : j = m := by omega
      subst hjm
      have htk : (numS s).take (2 * j) = numS s := List.take_of_length_le (by rw [HX.out, HM.out]; exact Nat.le_refl _)
      rw [htk] at hown
      have hok := HR.out.2
      rw [htk] at hok
      obtain ⟨p2, n2, c2, rfl, hS2⟩ := sl_owns hown (phV_rng _)
      have hn2 : n2 = j := by have := hS2.len; rw [phV_length, HX.out, HM.out] at this; omega
      subst hn2
      have hcv := conv_sl hS2
      have hle := hS2.cap
      clear htk hS2 hown
      by_cases hbig : 512 < n2
      · have hres : r = (⟨#[]⟩, 12) := by
          rw [HRes.out, if_neg (by rw [hok]; intro h; rcases h with h | h; exact H2.out h; cases h), if_pos (by have := HM.out; omega)]
        subst hres
        go_wp2_with fail
        go_ret2
        exact ⟨rfl, HR.out.1⟩
      · have hres : r = (strI (phV (numS s)), 0) := by
          rw [HRes.out, if_neg (by rw [hok]; intro h; rcases h with h | h; exact H2.out h; cases h), if_neg (by have := HM.out; omega)]
        subst hres
        go_wp2_with fail
        go_ret2
        exact ⟨rfl, HR.out.1⟩
end Go.Proofs.YtjadlianlnaomaaDoor
