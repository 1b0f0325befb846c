/- OrdmapOrder: the walk. -/
import Derived.Test.YtchnfmfbdbjbjaaOmSorted
import Derived.Test.YtchnfmfbdbjbjaaOmStand
import Derived.Test.YtchnfmfbdbjbjaaOmMapLaw
import Derived.Test.YtchnfmfbdbjbjaaOmWorks
import Derived.Deep.QuietTactic
import Derived.BigQuiet
import Derived.Outline
import Derived.Maps.AppendAt
namespace Go.Proofs.Ytchnfmfbdbjbjaa
open Go Go.RowKit Go.Maps

attribute [local go_sem] Oper.semAt_some

/-- The cell of the key at an index. -/
def keyCell (W : World) (idx : Nat) : Option Addr → Option (Int × Int) → Prop
  | some a, some y => W.cell? ⟨a.block, a.off + idx, none⟩ = some (.int .i64 y.1)
  | _, _ => True
/-- The key's value, looked up. -/
def keyLook (W : World) (gb : Nat) : Option (Int × Int) → Prop
  | some y => (Instr.lookup 47 (.map (some gb)) (.int .i64 y.1) false).run Try.prog W = .ok (.int .i64 y.2) W
  | none => True

theorem Stand.cellAt {W : World} {rb b gb wb kb : Nat} {p : Option Addr} {c : Nat} {l : List (Int × Int)} {D : DataW Unit} {kp : Option Addr} {kc : Nat} (S : Stand W rb b gb wb kb p c l D kp kc) {idx : Nat} {y : Option (Int × Int)} (hy : l[idx]? = y) : keyCell W idx kp y := by
  cases y with
  | none => cases kp <;> trivial
  | some y =>
    obtain ⟨g', o', e, h⟩ := S.keys idx y.1 (by rw [List.getElem?_map, hy]; rfl)
    subst e
    exact h
theorem Stand.lookAt {W : World} {rb b gb wb kb : Nat} {p : Option Addr} {c : Nat} {l : List (Int × Int)} {D : DataW Unit} {kp : Option Addr} {kc : Nat} (S : Stand W rb b gb wb kb p c l D kp kc) (hag : Ag D l) (hrg : ∀ x ∈ l, -32768 ≤ x.1 ∧ x.1 ≤ 32767) {idx : Nat} {y : Option (Int × Int)} (hy : l[idx]? = y) : keyLook W gb y := by
  cases y with
  | none => trivial
  | some y =>
    have hyr := hrg y (List.mem_of_getElem? hy)
    have h2 := look_own S.own hag y.1 hyr.1 hyr.2
    rwa [kGet_some ordI S.map.srt hy] at h2

/-- What the questions find: five cases. -/
theorem five {l : List (Int × Int)} (hs : Srt ltI l) (key : Int) {oc of o0 oL : Option (Int × Int)} (hoc : l[kRank ltI l key]? = oc) (hof : (if 0 < kUp ltI l key then l[kUp ltI l key - 1]? else none) = of) (ho0 : l[0]? = o0) (hoL : l[l.length - 1]? = oL) :
    (l.length = 0 ∧ kRank ltI l key = 0 ∧ kHas l key = false ∧ oc = none ∧ of = none ∧ o0 = none ∧ oL = none) ∨
    (∃ m y0 yL, l.length = m + 1 ∧ kRank ltI l key = m + 1 ∧ kHas l key = false ∧ oc = none ∧ of = some yL ∧ o0 = some y0 ∧ oL = some yL) ∨
    (∃ m r y y0 yL, l.length = m + 1 ∧ kRank ltI l key = r ∧ r ≤ m ∧ kHas l key = true ∧ oc = some y ∧ of = some y ∧ o0 = some y0 ∧ oL = some yL) ∨
    (∃ m y yL, l.length = m + 1 ∧ kRank ltI l key = 0 ∧ kHas l key = false ∧ oc = some y ∧ of = none ∧ o0 = some y ∧ oL = some yL) ∨
    (∃ m r y z y0 yL, l.length = m + 1 ∧ kRank ltI l key = r + 1 ∧ r + 1 ≤ m ∧ kHas l key = false ∧ oc = some y ∧ of = some z ∧ o0 = some y0 ∧ oL = some yL ∧ l[r]? = some z) := by
  have hle := kRank_le ltI l key
  unfold kUp at hof
  by_cases hz : l.length = 0
  · have : l = [] := List.eq_nil_of_length_eq_zero hz
    subst this
    exact .inl ⟨rfl, rfl, rfl, by simpa using hoc.symm, by simpa [kRank, kHas] using hof.symm, by simpa using ho0.symm, by simpa using hoL.symm⟩
  obtain ⟨m, hm⟩ : ∃ m, l.length = m + 1 := ⟨l.length - 1, by omega⟩
  have e0 : o0 = some (l[0]'(by omega)) := by rw [← ho0]; exact List.getElem?_eq_getElem _
  have eL : oL = some (l[l.length - 1]'(by omega)) := by rw [← hoL]; exact List.getElem?_eq_getElem _
  rcases Nat.lt_or_ge (kRank ltI l key) l.length with hlt | hge
  · have ec : oc = some (l[kRank ltI l key]'hlt) := by rw [← hoc]; exact List.getElem?_eq_getElem _
    cases hh : kHas l key with
    | true =>
      rw [hh] at hof
      simp only [if_true, Nat.add_sub_cancel, Nat.zero_lt_succ, ↓reduceIte] at hof
      exact .inr (.inr (.inl ⟨m, _, _, _, _, hm, rfl, by omega, rfl, ec, by rw [← hof, hoc]; exact ec, e0, eL⟩))
    | false =>
      rw [hh] at hof
      simp only [Bool.false_eq_true, if_false, Nat.add_zero, ↓reduceIte] at hof
      by_cases h0 : kRank ltI l key = 0
      · rw [if_neg (by omega)] at hof
        rw [h0, ho0] at hoc
        exact .inr (.inr (.inr (.inl ⟨m, _, _, hm, h0, rfl, hoc ▸ e0, hof.symm, e0, eL⟩)))
      · rw [if_pos (by omega)] at hof
        have ef : l[kRank ltI l key - 1]? = some (l[kRank ltI l key - 1]'(by omega)) := List.getElem?_eq_getElem _
        exact .inr (.inr (.inr (.inr ⟨m, kRank ltI l key - 1, _, _, _, _, hm, by omega, by omega, rfl, ec, by rw [← hof]; exact ef, e0, eL, ef⟩)))
  · have hh : kHas l key = false := by
      cases hh : kHas l key with
      | false => rfl
      | true =>
        obtain ⟨v, hv⟩ := (has_at_rank ordI hs key).1 hh
        have := (List.getElem?_eq_some_iff.1 hv).1
        omega
    rw [hh] at hof
    simp only [Bool.false_eq_true, if_false, Nat.add_zero, ↓reduceIte] at hof
    rw [if_pos (by omega)] at hof
    have er : kRank ltI l key = m + 1 := by omega
    refine .inr (.inl ⟨m, _, _, hm, er, hh, by rw [← hoc]; exact List.getElem?_eq_none_iff.2 hge, ?_, e0, eL⟩)
    rw [← hof, er, ← hm, hoL]
    exact eL

set_option maxHeartbeats 8000000 in
set_option maxRecDepth 100000 in
theorem ordmapOrder_in (n : Nat) (hn : 10 ≤ n) (a : Option Addr) (len cap : Nat) (xs : List (Bool × Int × Int)) (hlen : xs.length = len) (hcap : len ≤ cap) (hc63 : cap ≤ 9223372036854775807) (key : Int) (w : World) (hX : CallsAt w w.heap.size a xs) :
    CallsIn Fence.wide n Try.prog 6 #[.slice a len cap, .int .i64 key] w fun e w' => e = .returned (.bool true) ∧ Below w.heap.size w w' := by
  have h1 : 1 ≤ n := by omega
  have hA0 : Below w.heap.size w (w.alloc (.cells #[.bool false] 4)) := (Below.refl _ _).alloc (Nat.le_refl _) _
  have hf := filled_any a len cap xs hlen hcap hc63 (w.alloc (.cells #[.bool false] 4)) (by
    intro j x hx
    obtain ⟨⟨g, o, h⟩, hr⟩ := (hX.below hA0) j x hx
    exact ⟨⟨g, o, h.1, by simp; omega, h.2.2⟩, hr⟩)
  have hres : Boxed (w.alloc (.cells #[.bool false] 4)) w.heap.size 4 (.bool false) := Boxed.new _ _ _
  simp only [World.size_alloc] at hf
  have HF := Lib.hid hf
  have HRES := Lib.hid hres
  have HA0 := Lib.hid hA0
  clear hf hX hres hA0
  refine callsIn_of_wp_marks Try.func6 rfl trivial ?_ rfl
  simp only [Try.ntmps6, List.size_toArray, List.length_nil, Array.size_empty, List.length_cons, Nat.reduceAdd, Nat.reduceSub, Array.replicate_succ, Array.replicate_zero, List.push_toArray, List.append_toArray, List.nil_append, List.cons_append, Array.empty_append]
  gi_wp2_with fail
  refine ⟨trivial, (callsIn_wide.2 HF.out).mono ?_⟩
  rintro e W1 ⟨rfl, ⟨p, c, l, D, hM, hown, hag, hll, hrg, hpb⟩, hb1⟩
  have hsz1 := hb1.size
  have hml := ownsMap_lt hown
  have hres1 : Boxed W1 w.heap.size 4 (.bool false) := (hb1.block _ (by omega)).trans HRES.out
  have hb01 := HA0.out.trans (hb1.mono (by omega))
  have hA3 : Below W1.heap.size W1 (W1.alloc (.cells #[.map (some (w.heap.size + 1 + 1))] 47)) := (Below.refl _ _).alloc (Nat.le_refl _) _
  have hkm := keysMake (some (w.heap.size + 1 + 1)) (W1.alloc (.cells #[.map (some (w.heap.size + 1 + 1))] 47))
  have hso := sortedOf (w.heap.size + 1 + 1) 100 hag hM.srt (by omega) (W1.alloc (.cells #[.map (some (w.heap.size + 1 + 1))] 47)) (ownsMap_same hown (hA3.block _ hml))
  simp only [World.size_alloc] at hkm hso
  have HHK := Lib.hid hkm
  have HHS := Lib.hid hso
  have HM := Lib.hid hM
  have HOWN := Lib.hid hown
  have HAG := Lib.hid hag
  have HRG := Lib.hid hrg
  have HPB := Lib.hid hpb
  have HB1 := Lib.hid hb01
  have HR1 := Lib.hid hres1
  have HA3 := Lib.hid hA3
  clear hkm hso hM hown hag hrg hpb hb01 hres1 hA3 hb1 HF HRES HA0
  gi_wp2_with fail
  refine ⟨trivial, (callsIn_wide.2 HHK.out).mono ?_⟩
  rintro e W4 ⟨rfl, rfl⟩
  gi_wp2_with fail
  refine ⟨trivial, (callsIn_wide.2 HHS.out).mono ?_⟩
  rintro e W5 ⟨v, rfl, hrow, hb5⟩
  obtain ⟨kp, kc, rfl, hkc, hkc63, hkq⟩ := ownsRow_parts hrow
  have hs5 := hb5.size
  simp only [World.size_alloc] at hs5
  have hA5 : Below W1.heap.size W1 W5 := (HA3.out.alloc (by simp) _).trans (hb5.mono (by omega))
  have hAK : Below W1.heap.size W1 (W5.alloc (.cells #[.slice kp l.length kc] 51)) := hA5.alloc (by omega) _
  have hw5 : Boxed W5 W1.heap.size 47 (.map (some (w.heap.size + 1 + 1))) := (hb5.block _ (by omega)).trans ((Boxed.new W1 _ _).alloc _)
  have hST : Stand (W5.alloc (.cells #[.slice kp l.length kc] 51)) w.heap.size (w.heap.size + 1) (w.heap.size + 1 + 1) W1.heap.size W5.heap.size p c l D kp kc :=
    ⟨(hAK.block _ (by omega)).trans HR1.out, HM.out.below hAK, ownsMap_same HOWN.out (hAK.block _ hml), hw5.alloc _, Boxed.new _ _ _, reads_of_row (by rw [List.map_map]; exact hrow.alloc _)⟩
  have hBK : Below w.heap.size w (W5.alloc (.cells #[.slice kp l.length kc] 51)) := HB1.out.trans (hAK.mono (by omega))
  have hpK : ∀ a, p = some a → a.block < W1.heap.size := fun a ha => (HM.out.own ha).2
  have hsK : (W5.alloc (.cells #[.slice kp l.length kc] 51)).heap.size = W5.heap.size + 1 := World.size_alloc _ _
  have hs15 := hA5.size
  clear hb5 hrow hA5 hAK hw5 HHK HHS HM HOWN HPB HB1 HR1 HA3
  have HST := Lib.hid hST
  have HBK := Lib.hid hBK
  have HSK := Lib.hid hsK
  clear hST hBK hsK
  gi_wp2_with fail
  generalize (W5.alloc (.cells #[.slice kp l.length kc] 51)) = WK at *
  gi_loopw [39] (fun i wr => ∃ j : Nat, j ≤ l.length ∧ i = .int .i64 j ∧ Hid (Below WK.heap.size WK wr)) (fun i _ => l.length - (intOf i).toNat)
  case atStart => exact ⟨0, Nat.zero_le _, rfl, Below.refl _ _⟩
  case round =>
    obtain ⟨j, hj, rfl, HB⟩ := hrel
    by_cases hlt : j < l.length
    · obtain ⟨y, hy⟩ : ∃ y, l[j]? = some y := ⟨_, List.getElem?_eq_getElem hlt⟩
      have S := HST.out.below HB.out
      obtain ⟨g, o, hkp, ck⟩ := S.keys j y.1 (by rw [List.getElem?_map, hy]; rfl)
      subst hkp
      have hyr := HRG.out y (List.mem_of_getElem? hy)
      have hat := atC S.map (j : Int) (some y) (by rw [if_pos (by omega)]; simpa using hy.symm)
      have HRK : Hid (∀ W', Below wr.heap.size wr W' → Calls Try.prog 30 #[.pointer (some ⟨w.heap.size + 1, 0, none⟩), Value.int .i64 y.1] W' fun e w' => e = .returned (.int .i64 (j : Nat)) ∧ Below W'.heap.size W' w') := fun W' hb => by
        have := rankC (S.map.below hb) (by omega) y.1
        rwa [rank_of_key ordI S.map.srt hy] at this
      have HLK : Hid (∀ W', Below wr.heap.size wr W' → (Instr.lookup 47 (.map (some (w.heap.size + 1 + 1))) (.int .i64 y.1) false).run Try.prog W' = .ok (.int .i64 y.2) W' ∧ W'.cell? ⟨W1.heap.size, 0, none⟩ = some (.map (some (w.heap.size + 1 + 1)))) := fun W' hb => by
        have h2 := look_own (ownsMap_same S.own (hb.block _ (ownsMap_lt S.own))) HAG.out y.1 hyr.1 hyr.2
        rw [kGet_some ordI S.map.srt hy] at h2
        exact ⟨h2, (boxed_below S.wbox hb).cell⟩
      have HAT := Lib.hid hat
      have HY := Lib.hid hy
      have c3 := S.kbox.cell
      clear hat S hy
      gi_wp2_with fail
      refine ⟨trivial, (callsIn_wide.2 HAT.out).mono ?_⟩
      rintro e W6 ⟨rfl, hb6⟩
      obtain ⟨hlook, c2⟩ := HLK.out W6 hb6
      simp only [tupEC]
      gi_wp2_with fail
      refine ⟨trivial, (callsIn_wide.2 (HRK.out W6 hb6)).mono ?_⟩
      rintro e W7 ⟨rfl, hb7⟩
      gi_wp2
      go_roundw
      case rel => exact ⟨j + 1, by omega, by simp, HB.out.trans ((below_then hb6 hb7).mono (by have := HB.out.size; omega))⟩
      case measure => simp [intOf]; omega
    · obtain rfl : j = l.length := by omega
      have hbr := HB.out
      have S := HST.out.below hbr
      have hsr := S.keys.search (n := l.length) (c := kc) (by simp) (by omega) (keys_sorted S.map.srt) key
      rw [keys_count, keys_has] at hsr
      obtain ⟨oc, hoc⟩ : ∃ oc, l[kRank ltI l key]? = oc := ⟨_, rfl⟩
      obtain ⟨of, hof⟩ : ∃ of, (if 0 < kUp ltI l key then l[kUp ltI l key - 1]? else none) = of := ⟨_, rfl⟩
      obtain ⟨o0, ho0⟩ : ∃ o0, l[0]? = o0 := ⟨_, rfl⟩
      obtain ⟨oL, hoL⟩ : ∃ oL, l[l.length - 1]? = oL := ⟨_, rfl⟩
      have HRANK : Hid (∀ W', Below WK.heap.size WK W' → Calls Try.prog 30 #[.pointer (some ⟨w.heap.size + 1, 0, none⟩), Value.int .i64 key] W' fun e w' => e = .returned (.int .i64 (kRank ltI l key : Nat)) ∧ Below W'.heap.size W' w') := fun W' hb => rankC (HST.out.below hb).map (by omega) key
      have HCEIL : Hid (∀ W', Below WK.heap.size WK W' → Calls Try.prog 32 #[.pointer (some ⟨w.heap.size + 1, 0, none⟩), Value.int .i64 key] W' fun e w' => e = .returned (tupC oc) ∧ Below W'.heap.size W' w') := fun W' hb => ceilC (HST.out.below hb).map (by omega) key oc hoc
      have HFLOOR : Hid (∀ W', Below WK.heap.size WK W' → Calls Try.prog 33 #[.pointer (some ⟨w.heap.size + 1, 0, none⟩), Value.int .i64 key] W' fun e w' => e = .returned (tupC of) ∧ Below W'.heap.size W' w') := fun W' hb => floorC (HST.out.below hb).map (by omega) key of hof
      have HMIN : Hid (∀ W', Below WK.heap.size WK W' → Calls Try.prog 36 #[.pointer (some ⟨w.heap.size + 1, 0, none⟩)] W' fun e w' => e = .returned (tupC o0) ∧ Below W'.heap.size W' w') := fun W' hb => minC (HST.out.below hb).map o0 ho0
      have HMAX : Hid (∀ W', Below WK.heap.size WK W' → Calls Try.prog 37 #[.pointer (some ⟨w.heap.size + 1, 0, none⟩)] W' fun e w' => e = .returned (tupC oL) ∧ Below W'.heap.size W' w') := fun W' hb => maxC (HST.out.below hb).map (by omega) oL hoL
      have HLOOK : Hid (∀ W', Below WK.heap.size WK W' → keyLook W' (w.heap.size + 1 + 1) oc ∧ keyLook W' (w.heap.size + 1 + 1) of ∧ keyLook W' (w.heap.size + 1 + 1) o0 ∧ keyLook W' (w.heap.size + 1 + 1) oL ∧
          W'.cell? ⟨W1.heap.size, 0, none⟩ = some (.map (some (w.heap.size + 1 + 1))) ∧ W'.cell? ⟨W5.heap.size, 0, none⟩ = some (.slice kp l.length kc) ∧ W'.cell? ⟨w.heap.size, 0, none⟩ = some (.bool false) ∧ W'.frozen? ⟨w.heap.size, 0, none⟩ = false) := fun W' hb => by
        have S' := HST.out.below hb
        refine ⟨S'.lookAt HAG.out HRG.out hoc, ?_, S'.lookAt HAG.out HRG.out ho0, S'.lookAt HAG.out HRG.out hoL, S'.wbox.cell, S'.kbox.cell, S'.res.cell, S'.res.frozen⟩
        by_cases h : 0 < kUp ltI l key
        · rw [if_pos h] at hof; exact S'.lookAt HAG.out HRG.out hof
        · rw [if_neg h] at hof; subst hof; trivial
      obtain ⟨zs, hzs⟩ : ∃ zs, l.drop (kRank ltI l key) = zs := ⟨_, rfl⟩
      have hzl : zs.length + kRank ltI l key = l.length := by rw [← hzs, List.length_drop]; have := kRank_le ltI l key; omega
      have HSEQ : Hid (∀ (W' : World) (bm bk n₀ : Nat), Below WK.heap.size WK W' → W'.cell? ⟨bm, 0, none⟩ = some (.pointer (some ⟨w.heap.size + 1, 0, none⟩)) → W'.cell? ⟨bk, 0, none⟩ = some (Value.int .i64 key) → W1.heap.size ≤ n₀ → n₀ ≤ W'.heap.size →
          SeqStopsK Fence.wide (n - 1) Try.prog 104 #[.pointer (some ⟨bm, 0, none⟩), .pointer (some ⟨bk, 0, none⟩)] (fun i => encC (pickI zs i)) (Below n₀) (fun ys => ys = List.range zs.length) (fun pre => pre <+: List.range zs.length) zs.length W') := fun W' bm bk n₀ hb hbm hbk hn0 hn1 => by
        have := fromIdxC (n - 1) (by omega) key (by omega) bm bk n₀ W' hbm hbk (HST.out.below hb).map (fun a ha => by have := hpK a ha; omega) hn1 (pickI zs) (fun j x hx => pickI_at (by rw [← hzs]; exact hx))
        rwa [hzs] at this
      have HFI : Hid (∀ (W' : World) i, Below WK.heap.size WK W' → 0 < zs.length → (Instr.lookup 47 (.map (some (w.heap.size + 1 + 1))) (.int .i64 (pickI zs i).1) false).run Try.prog W' = .ok (.int .i64 (pickI zs i).2) W' ∧
          W'.cell? ⟨W1.heap.size, 0, none⟩ = some (.map (some (w.heap.size + 1 + 1))) ∧ W'.cell? ⟨W5.heap.size, 0, none⟩ = some (.slice kp l.length kc)) := fun W' i hb h0 => by
        have S' := HST.out.below hb
        have hmem0 : pickI zs i ∈ l.drop (kRank ltI l key) := by rw [hzs]; exact pickI_mem h0 i
        have hmem := List.mem_of_mem_drop hmem0
        obtain ⟨j, hj⟩ := List.mem_iff_getElem?.1 hmem
        exact ⟨S'.lookAt (y := some (pickI zs i)) HAG.out HRG.out hj, S'.wbox.cell, S'.kbox.cell⟩
      have HCELL : Hid (∀ W', Below WK.heap.size WK W' → keyCell W' (kRank ltI l key) kp oc ∧ keyCell W' (kRank ltI l key + (if kHas l key = true then 1 else 0) - 1) kp of ∧ keyCell W' 0 kp o0 ∧ keyCell W' (l.length - 1) kp oL) := fun W' hb => by
        have S' := HST.out.below hb
        refine ⟨S'.cellAt hoc, ?_, S'.cellAt ho0, S'.cellAt hoL⟩
        unfold kUp at hof
        by_cases h : 0 < kRank ltI l key + (if kHas l key = true then 1 else 0)
        · rw [if_pos h] at hof; exact S'.cellAt hof
        · rw [if_neg h] at hof; subst hof; cases kp <;> trivial
      have HKR : Hid (∀ (W' : World), Below WK.heap.size WK W' → Reads W' kp (l.map (·.1))) := fun W' hb => (HST.out.below hb).keys
      have HRE : Hid (∀ (W' : World) (q' : Option Addr), Below WK.heap.size WK W' → (zs.length = 0 ∨ ∃ g' o', q' = some ⟨g', o', none⟩ ∧ kp = some ⟨g', 0, none⟩ ∧ o' = kRank ltI l key) → Reads W' q' (zs.map (·.1))) := fun W' q' hb h => by
        rcases h with h | ⟨g', o', rfl, hkp, ho⟩
        · have : zs = [] := List.eq_nil_of_length_eq_zero h
          rw [this]
          exact Reads.nil _ _
        · have h0 := (HST.out.below hb).keys
          rw [hkp] at h0
          have := h0.drop (kRank ltI l key) o' (by omega)
          rwa [← List.map_drop, hzs] at this
      have h5 := five S.map.srt key hoc hof ho0 hoL
      have HSR := Lib.hid hsr
      have HOC := Lib.hid (And.intro hoc (And.intro ho0 hoL))
      have HSB : Hid (∀ W', Below WK.heap.size WK W' → Stand W' w.heap.size (w.heap.size + 1) (w.heap.size + 1 + 1) W1.heap.size W5.heap.size p c l D kp kc) := fun W' hb => HST.out.below hb
      clear hsr S hoc hof ho0 hoL hzs HST
      have hrl : kRank ltI l key ≤ l.length := kRank_le ltI l key
      have hcut : kc = kRank ltI l key ∨ ¬ kc = kRank ltI l key := Classical.em _
      generalize hr : kRank ltI l key = r at *
      generalize hL : l.length = L at *
      generalize hh : kHas l key = hs at *
      rcases h5 with ⟨rfl, rfl, rfl, rfl, rfl, rfl, rfl⟩ | ⟨m, y0, yL, rfl, rfl, rfl, rfl, rfl, rfl, rfl⟩ | ⟨m, r', y, y0, yL, rfl, rfl, hrm, rfl, rfl, rfl, rfl, rfl⟩ | ⟨m, y, yL, rfl, rfl, rfl, rfl, rfl, rfl, rfl⟩ | ⟨m, r', y, z, y0, yL, rfl, rfl, hrm, rfl, rfl, rfl, rfl, rfl, hz⟩
      all_goals rcases hkq with ⟨rfl, rfl⟩ | ⟨g, rfl⟩
      all_goals try (exfalso; omega)
      all_goals simp only [tupC, keyLook, keyCell, Bool.false_eq_true, if_false, if_true, Nat.add_zero, Nat.add_sub_cancel, ↓reduceIte, Nat.zero_add] at HCEIL HFLOOR HMIN HMAX HLOOK HCELL
      all_goals
        obtain ⟨-, -, -, -, c2, c3, c5, c6⟩ := HLOOK.out wr hbr
        gi_wp2_with fail
        refine ⟨trivial, (callsIn_wide.2 HSR.out).mono ?_⟩
        rintro e x0 ⟨rfl, q, rfl⟩
        have hb1 : Below WK.heap.size WK (wr.drewN q) := Below.drewN' q hbr
        clear c2 c3 c5 c6 hbr
        generalize wr.drewN q = x1 at *
        gi_wp2_with fail
        refine ⟨trivial, (callsIn_wide.2 (HRANK.out x1 hb1)).mono ?_⟩
        rintro e x2 ⟨rfl, hx⟩
        have hb2 := below_then hb1 hx
        clear hb1 hx
        gi_wp2_with fail
        refine ⟨trivial, (callsIn_wide.2 (HCEIL.out x2 hb2)).mono ?_⟩
        rintro e x3 ⟨rfl, hx⟩
        have hb3 := below_then hb2 hx
        clear hb2 hx
        obtain ⟨k1, k2, k3, k4, c2, c3, c5, c6⟩ := HLOOK.out x3 hb3
        obtain ⟨d1, d2, d3, d4⟩ := HCELL.out x3 hb3
        gi_wp2_with fail
        refine ⟨trivial, (callsIn_wide.2 (HFLOOR.out x3 hb3)).mono ?_⟩
        rintro e x4 ⟨rfl, hx⟩
        have hb4 := below_then hb3 hx
        clear hb3 hx k1 k2 k3 k4 c2 c3 c5 c6 d1 d2 d3 d4
        obtain ⟨k1, k2, k3, k4, c2, c3, c5, c6⟩ := HLOOK.out x4 hb4
        obtain ⟨d1, d2, d3, d4⟩ := HCELL.out x4 hb4
        gi_wp2_with fail
        refine ⟨trivial, (callsIn_wide.2 (fromMakeC _ key _)).mono ?_⟩
        rintro e x5 ⟨rfl, rfl⟩
        gi_wp2_with fail
        refine ⟨trivial, (callsIn_wide.2 (yieldsC _ _ _)).mono ?_⟩
        rintro e x5 ⟨rfl, rfl⟩
        gi_wp2_with fail
        clear k1 k2 k3 k4 c2 c3 c5 c6 d1 d2 d3 d4
        have hW0 : Below x4.heap.size x4 (((x4.alloc (.cells #[.slice none 0 0] 51)).alloc (.cells #[.pointer (some ⟨w.heap.size + 1, 0, none⟩)] 46)).alloc (.cells #[.int .i64 key] 3)) := (((Below.refl _ _).alloc (Nat.le_refl _) _).alloc (by simp) _).alloc (by simp; omega) _
        have bF := ((Boxed.new x4 51 (.slice none 0 0)).alloc (.cells #[.pointer (some ⟨w.heap.size + 1, 0, none⟩)] 46)).alloc (.cells #[.int .i64 key] 3)
        have bM := (Boxed.new (x4.alloc (.cells #[.slice none 0 0] 51)) 46 (.pointer (some ⟨w.heap.size + 1, 0, none⟩))).alloc (.cells #[.int .i64 key] 3)
        have bK := Boxed.new ((x4.alloc (.cells #[.slice none 0 0] 51)).alloc (.cells #[.pointer (some ⟨w.heap.size + 1, 0, none⟩)] 46)) 3 (.int .i64 key)
        rw [World.size_alloc] at bM
        rw [World.size_alloc, World.size_alloc] at bK
        have hsF : (((x4.alloc (.cells #[.slice none 0 0] 51)).alloc (.cells #[.pointer (some ⟨w.heap.size + 1, 0, none⟩)] 46)).alloc (.cells #[.int .i64 key] 3)).heap.size = x4.heap.size + 1 + 1 + 1 := by simp
        generalize (((x4.alloc (.cells #[.slice none 0 0] 51)).alloc (.cells #[.pointer (some ⟨w.heap.size + 1, 0, none⟩)] 46)).alloc (.cells #[.int .i64 key] 3)) = WF at *
        have hb4s := hb4.size
        have hsK' := HSK.out
        have hbF : Below WK.heap.size WK WF := hb4.trans (hW0.mono hb4s)
        obtain ⟨i0, hi, hz0, hz1, hz2⟩ := info_parts infoInt
        refine rangeG (encs := fun i => encC (pickI zs i)) (fun x T => ((((T.setIfInBounds 176 (.int .i64 (pickI zs x).1)).setIfInBounds 177 (.int .i64 (pickI zs x).2)).setIfInBounds 21 (.int .i64 (pickI zs x).1)).setIfInBounds 22 (.int .i64 (pickI zs x).2))) rfl h1 (gf := 104) (lb := #[.pointer (some ⟨x4.heap.size + 1, 0, none⟩), .pointer (some ⟨x4.heap.size + 1 + 1, 0, none⟩)]) rfl trivial (enters_of Try.func104 (by kernel_rfl) rfl)
          (HSEQ.out WF (x4.heap.size + 1) (x4.heap.size + 1 + 1) x4.heap.size hbF bM.cell bK.cell (by omega) (by omega)) belowK_t (belowK_b (by omega)) (Below.refl _ _) (fun _ => rfl)
          (fun pre W => (∃ v, Boxed W x4.heap.size 51 v ∧ W.ownsRow x4.heap.size 3 1 v pre.length (pre.map fun x => Value.int .i64 (pickI zs x).1) ∧ True) ∧ Below x4.heap.size x4 W)
          (fun _ _ _ => False)
          (OwnFrom.and (Own.from (holdsRow_own x4.heap.size x4.heap.size 51 3 1 (fun pre : List Nat => pre.length) (fun pre => pre.map fun x => Value.int .i64 (pickI zs x).1) (fun _ _ => True)) _) (ownFrom_below (Nat.le_refl _) (by omega)))
          (fun _ _ _ _ _ hs _ _ => hs)
          ⟨⟨_, bF, World.ownsRow_nil _ _ _ _, trivial⟩, hW0⟩ ?assign ?body ?done ?stop
        case assign =>
          intro lr x W K hK
          unfold encC
          gi_wp2
          exact hK
        case stop =>
          rintro D' c' pre W _ _ h _
          exact h.elim
        case body =>
          rintro lr pre x W ⟨⟨v, hv, hrow, _⟩, hB⟩ hlt2
          obtain ⟨hlook, c2, c3⟩ := HFI.out W x (hb4.trans (hB.mono hb4s)) (by omega)
          obtain ⟨fp, fc, rfl, hfc, hfc63, -⟩ := ownsRow_parts hrow
          have hc := hv.cell
          have hz5 := hzl
          simp only [List.setIfInBounds_toArray, List.set_cons_succ, List.set_cons_zero]
          gi_wp2_with (gi_at_builtin; refine wpListIn_append_own _ rfl _ _ 51 rfl x4.heap.size 3 i0 (.int .i64 0) 1 8 Try.underlying51 hi hz0 hz1 hz2 rfl (by decide) _ _ _ rfl (hrow.alloc _) ⟨W.heap.size, 0, none⟩ 1 1 [.int .i64 (pickI zs x).1] rfl rfl (cell_one_new _ _ _) (by simp [Value.oneCell']) (by unfold maxLen; omega) (by omega) (by have := hB.size; simp; omega) ?_; intro v' w1 hown' hgrow _; obtain ⟨g', cap', rfl⟩ := ownsRow_succ hown'; obtain ⟨hv1, hv2, hr2, hk2, hb2⟩ := hv.appended (by decide) hrow hB.size (Nat.le_refl _) hown' hgrow; have hc1 := hv1.cell; have hf1 := hv1.frozen)
          all_goals exact ⟨hk2.from _, hb2, ⟨_, hv2, by simpa using hr2, trivial⟩, hB.trans hb2⟩
        case done =>
          rintro D' ys W hD rfl ⟨⟨v, hv, hrow, _⟩, hB⟩ hK
          simp only [List.length_range] at hrow hv
          rw [pickI_map] at hrow
          obtain ⟨fp, fc, rfl, hfc, hfc63, -⟩ := ownsRow_parts hrow
          have hrd := reads_of_row hrow
          have hbW := hb4.trans (hB.mono hb4s)
          obtain ⟨k1, k2, k3, k4, c2, c3, c5, c6⟩ := HLOOK.out W hbW
          have c0 := hv.cell
          have HRD := Lib.hid hrd
          have HR2 : Hid (∀ q', (zs.length = 0 ∨ _) → Reads W q' (zs.map (·.1))) := fun q' h => HRE.out W q' hbW h
          have HBW := Lib.hid hbW
          have HDK := Lib.hid hK
          have HB2 := Lib.hid hB
          have hz5 := hzl
          have hll2 := hll
          have hkc2 := hkc
          clear hrd hbW hK hB hrow hv k1 k2 k3 k4
          gi_wp2_with fail
          refine wpIn_wide.2 ?_
          rcases hcut with hcut | hcut
          all_goals try (exfalso; omega)
          all_goals try exact absurd trivial hcut
          all_goals try exact absurd rfl hcut
          all_goals first | subst hcut | (have hc9 : True := hcut; clear hc9 hcut) | skip
          all_goals go_quiet ((go_at_call 35; exact Calls.quiet_of ((HRD.out.drewN _).same ((HR2.out _ (by first | (left; omega) | exact .inr ⟨_, _, rfl, rfl, by omega⟩)).drewN _) (by rw [List.length_map]) (by rw [List.length_map]; omega) (by omega) (by omega))))
          all_goals
            have hbq : Below WK.heap.size WK (W.drewN nq) := Below.drewN' nq HBW.out
            have hbx : Below x4.heap.size x4 (W.drewN nq) := Below.drewN' nq HB2.out
            have hdk : (W.drewN nq).heap[D']? = some (.deferred (some [])) := HDK.out
            clear c0 c2 c3 c5 c6 HRD HR2 HBW HDK HB2
            generalize W.drewN nq = y1 at *
            gi_wp2_with fail
            refine ⟨trivial, (callsIn_wide.2 (HMIN.out y1 hbq)).mono ?_⟩
            rintro e y2 ⟨rfl, hx⟩
            have hbq2 := below_then hbq hx
            have hdk2 := (hx.block _ (Array.getElem?_eq_some_iff.1 hdk).1).trans hdk
            have hys := hx.size
            clear hbq hx hdk
            gi_wp2_with fail
            refine ⟨trivial, (callsIn_wide.2 (HMAX.out y2 hbq2)).mono ?_⟩
            rintro e y3 ⟨rfl, hx⟩
            have hbq3 := below_then hbq2 hx
            have hdk3 := (hx.block _ (Array.getElem?_eq_some_iff.1 hdk2).1).trans hdk2
            clear hbq2 hx hdk2 hys
            obtain ⟨k1, k2, k3, k4, c2, c3, c5, c6⟩ := HLOOK.out y3 hbq3
            obtain ⟨d1, d2, d3, d4⟩ := HCELL.out y3 hbq3
            gi_wp2_with fail
            all_goals try (exfalso; rename_i h8 _; exact absurd (Option.some.inj h8) (by unfold undef; intro h; cases h))
            all_goals
              refine ⟨trivial, (callsIn_wide.2 (works3_any y3)).mono ?_⟩
              rintro e y4 ⟨rfl, hx⟩
              have hbq4 := below_then hbq3 hx
              have hdk4 := (hx.block _ (Array.getElem?_eq_some_iff.1 hdk3).1).trans hdk3
              clear hbq3 hx hdk3 k1 k2 k3 k4 c2 c3 c5 c6 d1 d2 d3 d4
              obtain ⟨k1, k2, k3, k4, c2, c3, c5, c6⟩ := HLOOK.out y4 hbq4
              gi_wp2_with fail
              have hK' := (KeepsOthers.setCell y4 ⟨w.heap.size, 0, none⟩ (.bool true)).same D' _ hdk4 rfl
              refine ⟨by simp, .inl ⟨_, _, rfl, run_takeDeferred hK', ?_⟩⟩
              have hc5 := cell_kept (World.cell?_setCell_same' y4 ⟨w.heap.size, 0, none⟩ (.bool true) (by rw [c5]; rfl)) (grownBy_putObj' _ D' (.deferred none)) (fun r e => by cases e; exact ⟨_, hK', rfl⟩)
              refine ⟨.bool true, ?_, rfl, ?_⟩
              · simp [results, Try.f6, go_sem, hc5]
              · have hwK := HBK.out.size
                have hy4 := hbq4.size
                have h8 : (y4.setCell ⟨w.heap.size, 0, none⟩ (.bool true)).heap.size = y4.heap.size := World.size_setCell ..
                have hb := (HBK.out.trans (hbq4.mono hwK)).setCell (p := ⟨w.heap.size, 0, none⟩) (Nat.le_refl _) (.bool true)
                exact hb.grown (grownBy_putObj' _ D' (.deferred none)) (by omega) (fun k e => by cases e; omega)
end Go.Proofs.Ytchnfmfbdbjbjaa
