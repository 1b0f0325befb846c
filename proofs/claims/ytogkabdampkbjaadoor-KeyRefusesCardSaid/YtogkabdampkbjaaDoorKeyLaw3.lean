/- Made, KeySuccessor: the walks, over the contracts of package key. -/
import Derived.Test.YtogkabdampkbjaaDoorKeyApi
namespace Go.Proofs.YtogkabdampkbjaaDoor
open Go Go.RowKit

/-- The key that is made of bytes. -/
def madeL (l : List Int) : List Int := if l = [] then [107] else (l.take 32).map fun c => keyL.getD (c.toNat % 39) 0

theorem keyL_ch (i : Nat) (h : i < 39) : 0 ≤ kpl (keyL.getD i 0) ∧ 0 ≤ keyL.getD i 0 ∧ keyL.getD i 0 < 256 := by
  have key : ∀ i : Fin 39, 0 ≤ kpl (keyL.getD i.val 0) ∧ 0 ≤ keyL.getD i.val 0 ∧ keyL.getD i.val 0 < 256 := by decide +kernel
  exact key ⟨i, h⟩

theorem madeL_key (l : List Int) : IsKey (madeL l) := by
  unfold madeL
  by_cases h : l = []
  · rw [if_pos h]; exact ⟨by simp, by simp, by decide⟩
  · rw [if_neg h]
    refine ⟨?_, by simp; omega, fun c hc => ?_⟩
    · intro h2
      apply h
      have := congrArg List.length h2
      simp at this
      cases l with
      | nil => rfl
      | cons _ _ => simp at this
    · rw [List.mem_map] at hc
      obtain ⟨x, _, rfl⟩ := hc
      exact (keyL_ch _ (Nat.mod_lt _ (by decide))).1

theorem madeL_rng (l : List Int) : ∀ c ∈ madeL l, 0 ≤ c ∧ c < 256 := by
  intro c hc
  unfold madeL at hc
  split at hc
  · rw [List.mem_singleton.1 hc]; decide
  · rw [List.mem_map] at hc
    obtain ⟨x, _, rfl⟩ := hc
    exact (keyL_ch _ (Nat.mod_lt _ (by decide))).2

set_option maxHeartbeats 1600000 in
set_option maxRecDepth 100000 in
theorem made_any (p : Option Addr) (len cap : Nat) (xs : List Int) (w : World) (hS : Sl w p len cap xs) (hc63 : cap ≤ maxLen) :
    Calls Tryd.prog 24 #[.slice p len cap] w fun e w' => e = .returned (.string (strI (madeL xs))) ∧ Below w.heap.size w w' := by
  obtain ⟨m, hm⟩ : ∃ m : Nat, min (len : Int) 32 = (m : Int) := ⟨min len 32, by omega⟩
  have hml : m ≤ len := by omega
  have hm32 : m ≤ 32 := by omega
  have HS := Lib.hid (hS.take m hml)
  have hcap := hS.cap
  obtain ⟨r, hr⟩ : ∃ r, r = strI (madeL xs) := ⟨_, rfl⟩
  rw [← hr]
  have HR : Hid (r = if m = 0 then ⟨#[107]⟩ else strI ((xs.take m).map fun c => keyL.getD (c.toNat % 39) 0)) := by
    show r = _
    rw [hr]
    unfold madeL
    have hxl := hS.len
    by_cases h0 : m = 0
    · rw [if_pos h0, if_pos (List.eq_nil_of_length_eq_zero (by omega))]; rfl
    · rw [if_neg h0, if_neg (fun h => h0 (by rw [h] at hxl; simp at hxl; omega))]
      congr 2
      by_cases h32 : len ≤ 32
      · have : m = len := by omega
        rw [this, List.take_of_length_le (by omega), List.take_of_length_le (by omega)]
      · have : m = 32 := by omega
        rw [this]
  have HIx : Hid (∀ i : Nat, i < 39 → ∀ w, (Instr.index 9 (Value.string { data := #[45, 46, 48, 49, 50, 51, 52, 53, 54, 55, 56, 57, 95, 97, 98, 99, 100, 101, 102, 103, 104, 105, 106, 107, 108, 109, 110, 111, 112, 113, 114, 115, 116, 117, 118, 119, 120, 121, 122] }) (.int .i64 i)).run Tryd.prog w = .ok (.int .u8 (keyL.getD i 0)) w) := fun i hi w => by
    have := index_s keyS i (by rw [keyS_size]; exact hi) w
    rw [numS_keyS] at this
    exact this
  obtain ⟨i0, hi, hz0, hz1, hz2⟩ := info_parts Tryd.infoB
  have hmi : (0 : Int) ≤ (m : Int) := by omega
  have hmc : (m : Int) ≤ (cap : Int) := by omega
  unfold maxLen at hc63
  clear hr hS
  go_enter Tryd.func24, Tryd.ntmps24
  go_wp2_with fail
  go_loopw [3, 12] (fun v i wr => ∃ k : Nat, k ≤ m ∧ i = .int .i64 k ∧ wr.ownsRow w.heap.size 5 1 v k ((((xs.take m).take k).map fun c => keyL.getD (c.toNat % 39) 0).map (Value.int .u8)) ∧ Hid (Below w.heap.size w wr))
    (fun _ i _ => m - (intOf i).toNat)
  case atStart => exact ⟨0, by omega, rfl, by simpa using World.ownsRow_nil _ _ _ _, Below.refl _ _⟩
  case round =>
    obtain ⟨k, hk, rfl, hown, HB⟩ := hrel
    by_cases hlt : k < m
    · obtain ⟨b, o, rfl, hcc⟩ := HS.out.bytes (by omega)
      have hcw := hcc k hlt
      have hcell : wr.cell? ⟨b, o + k, none⟩ = some (.int .u8 ((xs.take m).getD k 0)) := (HB.out.cell (p := ⟨b, o + k, none⟩) (World.block_lt_of_cell? w _ hcw)).trans hcw
      have hkx : k < (xs.take m).length := by rw [HS.out.len]; exact hlt
      have hrg := getD_rng HS.out.rng k hkx
      have hst : (((xs.take m).take (k + 1)).map fun c => keyL.getD (c.toNat % 39) 0) = (((xs.take m).take k).map fun c => keyL.getD (c.toNat % 39) 0) ++ [keyL.getD (((xs.take m).getD k 0).toNat % 39) 0] := by
        rw [take_succ_getD _ _ hkx, List.map_append]; rfl
      generalize (xs.take m).getD k 0 = c at *
      obtain ⟨cn, hcn⟩ := Int.eq_ofNat_of_zero_le hrg.1
      subst hcn
      rw [Int.toNat_natCast] at hst
      obtain ⟨q, hq⟩ : ∃ q, q = cn % 39 := ⟨_, rfl⟩
      have hqi : (cn : Int) % 39 = (q : Int) := by omega
      have ixq := HIx.out q (by omega)
      rw [← hq] at hst
      generalize keyL.getD q 0 = y at *
      have HSt := Lib.hid hst
      have hcn0 : (0 : Int) ≤ (cn : Int) := by omega
      have hcn1 : (cn : Int) < 256 := hrg.2
      clear hcw hcc hkx hst hq hrg
      go_wp2_with (at_builtin; refine wpList_append_own _ rfl _ _ 33 rfl w.heap.size 5 i0 (.int .u8 0) 1 1 Tryd.underlying33 hi hz0 hz1 hz2 rfl (by decide) _ _ _ rfl (hown.alloc _) ⟨wr.heap.size, 0, none⟩ 1 1 [.int .u8 y] rfl rfl (by intro t u ht; match t, ht with | 0, ht => simp at ht; subst ht; simp [Addr.add]) (by intro u hu; simp at hu; subst hu; rfl) (by unfold maxLen; omega) (by omega) (by have := HB.out.size; simp; omega) ?_; intro v' w2 hown' hgrow _)
      have hrow : ∀ q, Value.ownBlock u3 = some q → w.heap.size ≤ q := fun q hq => (hown.lt q hq).1
      have HB2 := Lib.hid ((HB.out.alloc HB.out.size _).grown hgrow (by have := HB.out.size; simp; omega) hrow)
      have HO := Lib.hid hown'
      clear hown' hgrow hrow hown
      go_wp2_with fail
      go_roundw
      case rel => exact ⟨k + 1, by omega, by go_num, by rw [HSt.out, List.map_append]; exact HO.out, HB2⟩
      case measure => simp [intOf]; omega
    · have hkm : k = m := by omega
      subst hkm
      have htk : (xs.take k).take k = xs.take k := by rw [List.take_take, Nat.min_self]
      rw [htk] at hown
      obtain ⟨p2, n2, c2, rfl, hS2⟩ := sl_owns hown (fun y hy => by
        rw [List.mem_map] at hy
        obtain ⟨x, _, rfl⟩ := hy
        exact (keyL_ch _ (Nat.mod_lt _ (by decide))).2)
      have hn2 : n2 = k := by have := hS2.len; rw [List.length_map, HS.out.len] at this; omega
      subst hn2
      generalize ((xs.take n2).map fun c => keyL.getD (c.toNat % 39) 0) = Z at *
      have hcv := conv_sl hS2
      clear hS2 hown htk
      by_cases h0 : n2 = 0
      · have hres : r = ⟨#[107]⟩ := by rw [HR.out, if_pos h0]
        subst hres
        subst h0
        rw [show ((0 : Nat) : Int) = 0 from rfl] at *
        go_wp2_with fail
        go_ret
        exact ⟨rfl, HB.out⟩
      · have hres : r = strI Z := by rw [HR.out, if_neg h0]
        subst hres
        have h0i : ((n2 : Int) == 0) = false := by rw [beq_eq_false_iff_ne]; omega
        clear h0
        go_wp2_with fail
        go_ret
        exact ⟨rfl, HB.out⟩

theorem KeyOk.madev {L : World → Prop} (H : KeyOk L) {p : Option Addr} {len cap : Nat} {xs : List Int} {w : World} (hS : Sl w p len cap xs) (hc : cap ≤ maxLen) (hL : L w) :
    Calls Tryd.prog 24 #[.slice p len cap] w fun e w' => e = .returned (.string (strI (madeL xs))) ∧ L w' ∧ Below w.heap.size w w' :=
  (made_any p len cap xs w hS hc).mono fun _ w' ⟨he, hb⟩ => ⟨he, H.below w w' hL hb, hb⟩

theorem numS_z32 : numS (repS ⟨#[122]⟩ 32) = List.replicate 32 122 := by decide +kernel

set_option maxHeartbeats 3200000 in
set_option maxRecDepth 100000 in
theorem keySuccessor_sl {L : World → Prop} (H : KeyOk L) (pb : Option Addr) (lb cb : Nat) (B : List Int) (pc : Option Addr) (lc cc : Nat) (C : List Int) (w : World) (h : L w) (hB : Sl w pb lb cb B) (hC : Sl w pc lc cc C) (hcb : cb ≤ maxLen) (hcc : cc ≤ maxLen) :
    Calls Tryd.prog 6 #[.slice pb lb cb, .slice pc lc cc] w fun e w' => e = .returned (.bool true) ∧ Below w.heap.size w w' := by
  have HL0 := Lib.hid h
  have HB0 := Lib.hid (Below.refl w.heap.size w)
  have HH := Lib.hid H
  have HSB := Lib.hid hB
  have HSC := Lib.hid hC
  have HCB := Lib.hid hcb
  have HCC := Lib.hid hcc
  have hk1 := madeL_key B
  have hk2 := madeL_key C
  have hn1 := numS_strI _ (madeL_rng B)
  have hn2 := numS_strI _ (madeL_rng C)
  have hs1 : (strI (madeL B)).size ≤ 32 := by rw [strI_size]; exact hk1.le
  have hs2 : (strI (madeL C)).size ≤ 32 := by rw [strI_size]; exact hk2.le
  obtain ⟨s, hs⟩ : ∃ s, s = strI (madeL B) := ⟨_, rfl⟩
  obtain ⟨t, ht⟩ : ∃ t, t = strI (madeL C) := ⟨_, rfl⟩
  rw [← hs] at hn1 hs1
  rw [← ht] at hn2 hs2
  rw [← hn1] at hk1
  rw [← hn2] at hk2
  have HS := Lib.hid hs
  have HT := Lib.hid ht
  obtain ⟨z32, hz⟩ : ∃ z, z = repS ⟨#[122]⟩ 32 := ⟨_, rfl⟩
  have hsz := str_beq s z32
  rw [hz, numS_z32, ← hz] at hsz
  have HZ := Lib.hid hz.symm
  clear h H hB hC hcb hcc hs ht hz hn1 hn2
  cases hn : kNext (numS s) with
  | none =>
    have hmax := (next_none _ hk1).1 hn
    rw [decide_eq_true hmax] at hsz
    have hle := max_le _ hk2
    rw [← hmax] at hle
    obtain ⟨v, hv⟩ : ∃ v, v = ordL (numS t) (numS s) := ⟨_, rfl⟩
    rw [← hv] at hle
    have HV := Lib.hid hv.symm
    have HN : Hid (kNextS s = (⟨#[]⟩, false)) := by show kNextS s = _; unfold kNextS; rw [hn]
    clear hn hmax hv hk1 hk2
    go_enter Tryd.func6, Tryd.ntmps6
    go_wp2_with fail
    refine (HH.out.madev HSB.out HCB.out HL0.out).mono ?_
    rw [← HS.out]
    rintro e w1 ⟨rfl, hl, hb⟩
    have HL1 := Lib.hid hl
    have HB1 := Lib.hid (below_then5 HB0.out hb)
    clear hl hb HL0 HB0
    go_wp2_with fail
    refine (HH.out.madev (HSC.out.below HB1.out) HCC.out HL1.out).mono ?_
    rw [← HT.out]
    rintro e w2 ⟨rfl, hl, hb⟩
    have HL2 := Lib.hid hl
    have HB2 := Lib.hid (below_then5 HB1.out hb)
    clear hl hb HL1 HB1
    go_wp2_with fail
    refine (HH.out.nextv ⟨#[]⟩ false (by omega) HL2.out HN.out).mono ?_
    rintro e w3 ⟨rfl, hl, hb⟩
    have HL3 := Lib.hid hl
    have HB3 := Lib.hid (below_then5 HB2.out hb)
    clear hl hb HL2 HB2
    go_wp2_with fail
    refine (HH.out.repv 32 z32 rfl (by decide) (by decide) HL3.out HZ.out).mono ?_
    rintro e w4 ⟨rfl, hl, hb⟩
    have HL4 := Lib.hid hl
    have HB4 := Lib.hid (below_then5 HB3.out hb)
    clear hl hb HL3 HB3
    go_wp2_with fail
    refine (HH.out.orderv v (by omega) (by omega) HL4.out HV.out).mono ?_
    rintro e w5 ⟨rfl, hl, hb⟩
    have HL5 := Lib.hid hl
    have HB5 := Lib.hid (below_then5 HB4.out hb)
    clear hl hb HL4 HB4
    go_wp2_with fail
    refine (works5_any HH.out _ HL5.out).mono ?_
    rintro e wz ⟨rfl, hb⟩
    go_wp2_with fail
    go_ret
    exact ⟨rfl, below_then5 HB5.out hb⟩
  | some n =>
    obtain ⟨g1, g2, g3⟩ := next_some _ n hk1 hn
    have hnm : ¬ numS s = List.replicate 32 122 := fun he => by
      have := (next_none _ hk1).2 he
      rw [hn] at this
      cases this
    rw [decide_eq_false hnm] at hsz
    have hrn : ∀ c ∈ n, 0 ≤ c ∧ c < 256 := fun c hc => by
      have h1 := keyL_kpl c (g1.ch c hc)
      have h2 := keyL_ch (kpl c).toNat (by omega)
      rw [h1.2] at h2
      exact h2.2
    have hnn := numS_strI n hrn
    have hsn : (strI n).size ≤ 32 := by rw [strI_size]; exact g1.le
    have HN : Hid (kNextS s = (strI n, true)) := by show kNextS s = _; unfold kNextS; rw [hn]
    rw [← hnn] at g1 g2 g3
    obtain ⟨u, hu⟩ : ∃ u, u = strI n := ⟨_, rfl⟩
    rw [← hu] at hnn hsn HN g1 g2 g3
    have HCk : Hid (kCheck (numS u) = 0) := (kCheck_key _).2 g1
    have HO1 := Lib.hid g2
    have HO2 : Hid (ordL (numS u) (numS s) = 1) := by show _ = _; rw [ordL_neg (numS s) (numS u), g2]; rfl
    have hbt := g3 _ hk2
    obtain ⟨v, hv⟩ : ∃ v, v = ordL (numS t) (numS s) := ⟨_, rfl⟩
    obtain ⟨v2, hv2⟩ : ∃ v2, v2 = ordL (numS u) (numS t) := ⟨_, rfl⟩
    rw [← hv, ← hv2] at hbt
    have HV := Lib.hid hv.symm
    have HV2 := Lib.hid hv2.symm
    clear hn hnm hrn hnn hu g1 g2 g3 hv hv2 hk1 hk2
    by_cases hv0 : v ≤ 0
    · clear hbt
      go_enter Tryd.func6, Tryd.ntmps6
      go_wp2_with fail
      refine (HH.out.madev HSB.out HCB.out HL0.out).mono ?_
      rw [← HS.out]
      rintro e w1 ⟨rfl, hl, hb⟩
      have HL1 := Lib.hid hl
      have HB1 := Lib.hid (below_then5 HB0.out hb)
      clear hl hb HL0 HB0
      go_wp2_with fail
      refine (HH.out.madev (HSC.out.below HB1.out) HCC.out HL1.out).mono ?_
      rw [← HT.out]
      rintro e w2 ⟨rfl, hl, hb⟩
      have HL2 := Lib.hid hl
      have HB2 := Lib.hid (below_then5 HB1.out hb)
      clear hl hb HL1 HB1
      go_wp2_with fail
      refine (HH.out.nextv u true (by omega) HL2.out HN.out).mono ?_
      rintro e w3 ⟨rfl, hl, hb⟩
      have HL3 := Lib.hid hl
      have HB3 := Lib.hid (below_then5 HB2.out hb)
      clear hl hb HL2 HB2
      go_wp2_with fail
      refine (HH.out.repv 32 z32 rfl (by decide) (by decide) HL3.out HZ.out).mono ?_
      rintro e w4 ⟨rfl, hl, hb⟩
      have HL4 := Lib.hid hl
      have HB4 := Lib.hid (below_then5 HB3.out hb)
      clear hl hb HL3 HB3
      go_wp2_with fail
      refine (HH.out.checkv 0 (by omega) HL4.out HCk.out).mono ?_
      rintro e w5 ⟨rfl, hl, hb⟩
      have HL5 := Lib.hid hl
      have HB5 := Lib.hid (below_then5 HB4.out hb)
      clear hl hb HL4 HB4
      go_wp2_with fail
      refine (HH.out.orderv (-1) (by omega) (by omega) HL5.out HO1.out).mono ?_
      rintro e w6 ⟨rfl, hl, hb⟩
      have HL6 := Lib.hid hl
      have HB6 := Lib.hid (below_then5 HB5.out hb)
      clear hl hb HL5 HB5
      go_wp2_with fail
      refine (HH.out.orderv 1 (by omega) (by omega) HL6.out HO2.out).mono ?_
      rintro e w7 ⟨rfl, hl, hb⟩
      have HL7 := Lib.hid hl
      have HB7 := Lib.hid (below_then5 HB6.out hb)
      clear hl hb HL6 HB6
      go_wp2_with fail
      refine (HH.out.orderv v (by omega) (by omega) HL7.out HV.out).mono ?_
      rintro e w8 ⟨rfl, hl, hb⟩
      have HL8 := Lib.hid hl
      have HB8 := Lib.hid (below_then5 HB7.out hb)
      clear hl hb HL7 HB7
      go_wp2_with fail
      refine (works5_any HH.out _ HL8.out).mono ?_
      rintro e wz ⟨rfl, hb⟩
      go_wp2_with fail
      go_ret
      exact ⟨rfl, below_then5 HB8.out hb⟩
    · have hv20 : v2 ≤ 0 := by rcases hbt with h | h; exact absurd h hv0; exact h
      clear hbt
      go_enter Tryd.func6, Tryd.ntmps6
      go_wp2_with fail
      refine (HH.out.madev HSB.out HCB.out HL0.out).mono ?_
      rw [← HS.out]
      rintro e w1 ⟨rfl, hl, hb⟩
      have HL1 := Lib.hid hl
      have HB1 := Lib.hid (below_then5 HB0.out hb)
      clear hl hb HL0 HB0
      go_wp2_with fail
      refine (HH.out.madev (HSC.out.below HB1.out) HCC.out HL1.out).mono ?_
      rw [← HT.out]
      rintro e w2 ⟨rfl, hl, hb⟩
      have HL2 := Lib.hid hl
      have HB2 := Lib.hid (below_then5 HB1.out hb)
      clear hl hb HL1 HB1
      go_wp2_with fail
      refine (HH.out.nextv u true (by omega) HL2.out HN.out).mono ?_
      rintro e w3 ⟨rfl, hl, hb⟩
      have HL3 := Lib.hid hl
      have HB3 := Lib.hid (below_then5 HB2.out hb)
      clear hl hb HL2 HB2
      go_wp2_with fail
      refine (HH.out.repv 32 z32 rfl (by decide) (by decide) HL3.out HZ.out).mono ?_
      rintro e w4 ⟨rfl, hl, hb⟩
      have HL4 := Lib.hid hl
      have HB4 := Lib.hid (below_then5 HB3.out hb)
      clear hl hb HL3 HB3
      go_wp2_with fail
      refine (HH.out.checkv 0 (by omega) HL4.out HCk.out).mono ?_
      rintro e w5 ⟨rfl, hl, hb⟩
      have HL5 := Lib.hid hl
      have HB5 := Lib.hid (below_then5 HB4.out hb)
      clear hl hb HL4 HB4
      go_wp2_with fail
      refine (HH.out.orderv (-1) (by omega) (by omega) HL5.out HO1.out).mono ?_
      rintro e w6 ⟨rfl, hl, hb⟩
      have HL6 := Lib.hid hl
      have HB6 := Lib.hid (below_then5 HB5.out hb)
      clear hl hb HL5 HB5
      go_wp2_with fail
      refine (HH.out.orderv 1 (by omega) (by omega) HL6.out HO2.out).mono ?_
      rintro e w7 ⟨rfl, hl, hb⟩
      have HL7 := Lib.hid hl
      have HB7 := Lib.hid (below_then5 HB6.out hb)
      clear hl hb HL6 HB6
      go_wp2_with fail
      refine (HH.out.orderv v (by omega) (by omega) HL7.out HV.out).mono ?_
      rintro e w8 ⟨rfl, hl, hb⟩
      have HL8 := Lib.hid hl
      have HB8 := Lib.hid (below_then5 HB7.out hb)
      clear hl hb HL7 HB7
      go_wp2_with fail
      refine (HH.out.orderv v2 (by omega) (by omega) HL8.out HV2.out).mono ?_
      rintro e w9 ⟨rfl, hl, hb⟩
      have HL9 := Lib.hid hl
      have HB9 := Lib.hid (below_then5 HB8.out hb)
      clear hl hb HL8 HB8
      go_wp2_with fail
      refine (works5_any HH.out _ HL9.out).mono ?_
      rintro e wz ⟨rfl, hb⟩
      go_wp2_with fail
      go_ret
      exact ⟨rfl, below_then5 HB9.out hb⟩
end Go.Proofs.YtogkabdampkbjaaDoor
