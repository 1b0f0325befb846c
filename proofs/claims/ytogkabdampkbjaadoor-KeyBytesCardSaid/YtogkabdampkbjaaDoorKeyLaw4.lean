/- KeyBytes: the walk, over the contracts of package key. -/
import Derived.Test.YtogkabdampkbjaaDoorKeyLaw3
import Derived.BigRegion
namespace Go.Proofs.YtogkabdampkbjaaDoor
open Go Go.RowKit

/-- A byte put into a list. -/
def putAt (l : List Int) (k : Nat) (c : Int) : List Int := l.take k ++ [c] ++ l.drop k

theorem putAt_length (l : List Int) (k : Nat) (c : Int) (h : k ≤ l.length) : (putAt l k c).length = l.length + 1 := by
  unfold putAt
  simp
  omega

theorem put_str (s : ByteArray) (k : Nat) (c : Int) (hc : 0 ≤ c ∧ c < 256) : s.extract 0 k ++ strI [c] ++ s.extract k s.size = strI (putAt (numS s) k c) := by
  have h1 : numS (s.extract 0 k ++ strI [c] ++ s.extract k s.size) = putAt (numS s) k c := by
    rw [numS_append, numS_append, numS_extract, numS_extract, numS_strI [c] (by intro x hx; rw [List.mem_singleton] at hx; subst hx; exact hc)]
    unfold putAt
    rw [List.drop_zero, List.take_of_length_le (Nat.le_of_eq (numS_length s))]
  rw [← h1, strI_numS]

theorem kCheck_put (l : List Int) (k : Nat) (c : Int) (hk : k ≤ l.length) (hl : IsKey l) : kCheck (putAt l k c) = if isK c = false then 2 else if 32 < l.length + 1 then 12 else 0 := by
  have hlen := putAt_length l k c hk
  have hall : (putAt l k c).all isK = isK c := by
    unfold putAt
    rw [List.all_append, List.all_append]
    have h1 : (l.take k).all isK = true := by
      rw [List.all_eq_true]; intro x hx; exact decide_eq_true (hl.ch x (List.mem_of_mem_take hx))
    have h2 : (l.drop k).all isK = true := by
      rw [List.all_eq_true]; intro x hx; exact decide_eq_true (hl.ch x (List.mem_of_mem_drop hx))
    rw [h1, h2]
    simp
  unfold kCheck
  rw [if_neg (by intro e; rw [e] at hlen; simp at hlen), hall, hlen]

theorem kFits_key (l : List Int) (n : Int) (h : kCheck l = 0) (h1 : 1 ≤ n) (h2 : n ≤ 32) : kFits l n = if n < (l.length : Int) then 12 else 0 := by
  unfold kFits
  rw [if_neg (by omega), h]
  by_cases hq : n < (l.length : Int)
  · rw [if_pos ⟨rfl, hq⟩, if_pos hq]
  · rw [if_neg (fun e => hq e.2), if_neg hq]

theorem kFits_bad (l : List Int) (n : Int) (h : kCheck l ≠ 0) (h1 : 1 ≤ n) (h2 : n ≤ 32) : kFits l n = kCheck l := by
  unfold kFits
  rw [if_neg (by omega), if_neg (fun e => h e.1)]

theorem idx_keyS : ∀ c : Fin 256, (Lib.indexByte keyS.data.toList (c.val : Int).toNat.toUInt8 < 0 ↔ isK (c.val : Int) = false) := by decide +kernel

theorem KeyOk.idxv {L : World → Prop} (H : KeyOk L) {s : ByteArray} {c : Int} {w : World} (v : Int) (hL : L w) (hv : Lib.indexByte s.data.toList c.toNat.toUInt8 = v) :
    Calls Tryd.prog 26 #[.string s, .int .u8 c] w fun e w' => e = .returned (.int .i64 v) ∧ L w' ∧ Below w.heap.size w w' :=
  (H.idx s c w hL).mono fun e w' ⟨he, hb⟩ => ⟨by rw [he, hv], H.below w w' hL hb, hb⟩

set_option maxHeartbeats 3200000 in
set_option maxRecDepth 100000 in
theorem keyBytes_sl {L : World → Prop} (H : KeyOk L) (pb : Option Addr) (lb cb : Nat) (B : List Int) (c a m : Nat) (w : World) (h : L w) (hB : Sl w pb lb cb B) (hcb : cb ≤ maxLen) (hc : c < 256) (ha : a < 256) (hm : m < 256) :
    Calls Tryd.prog 8 #[.slice pb lb cb, .int .u8 c, .int .u8 a, .int .u8 m] w fun e w' => e = .returned (.bool true) ∧ Below w.heap.size w w' := by
  have HL0 := Lib.hid h
  have HB0 := Lib.hid (Below.refl w.heap.size w)
  have HH := Lib.hid H
  have HSB := Lib.hid hB
  have HCB := Lib.hid hcb
  have hk1 := madeL_key B
  have hn1 := numS_strI _ (madeL_rng B)
  have hs1 : (strI (madeL B)).size ≤ 32 := by rw [strI_size]; exact hk1.le
  obtain ⟨s, hs⟩ : ∃ s, s = strI (madeL B) := ⟨_, rfl⟩
  rw [← hs] at hn1 hs1
  rw [← hn1] at hk1
  have HS := Lib.hid hs
  clear h H hB hcb hs hn1
  have hsl := numS_length s
  -- where the byte goes
  obtain ⟨k, hk⟩ : ∃ k, k = a % (s.size + 1) := ⟨_, rfl⟩
  have hkm : (a : Int).tmod ((s.size : Int) + 1) = (k : Int) := by
    rw [Int.tmod_eq_emod_of_nonneg (by omega), hk]
    push_cast
    rfl
  have hkm2 : (a : Int) % ((s.size : Int) + 1) = (k : Int) := by
    rw [hk]
    push_cast
    rfl
  have hks : k ≤ s.size := Nat.le_of_lt_succ (by rw [hk]; exact Nat.mod_lt _ (by omega))
  clear hk
  have hput := put_str s k c (by omega)
  have hpc := kCheck_put (numS s) k c (by omega) hk1
  have hpl := putAt_length (numS s) k c (by omega)
  rw [hsl] at hpc hpl
  have hpn : numS (strI (putAt (numS s) k c)) = putAt (numS s) k c := numS_strI _ (by
    intro x hx
    unfold putAt at hx
    rcases List.mem_append.1 hx with hx | hx
    · rcases List.mem_append.1 hx with hx | hx
      · exact numS_rng s x (List.mem_of_mem_take hx)
      · rw [List.mem_singleton] at hx; subst hx; omega
    · exact numS_rng s x (List.mem_of_mem_drop hx))
  have hps : (strI (putAt (numS s) k c)).size = s.size + 1 := by rw [strI_size, hpl]
  obtain ⟨t, ht⟩ : ∃ t, t = strI (putAt (numS s) k c) := ⟨_, rfl⟩
  rw [← ht] at hput hpn hps
  rw [← hpn] at hpc
  have hidx := idx_keyS ⟨c, hc⟩
  obtain ⟨ix, hix⟩ : ∃ ix, ix = Lib.indexByte keyS.data.toList ((c : Int)).toNat.toUInt8 := ⟨_, rfl⟩
  have hidx2 : ix < 0 ↔ isK (c : Int) = false := by rw [hix]; exact hidx
  have HIX := Lib.hid hix.symm
  have hck := (kCheck_key _).2 hk1
  clear hpl hpn ht hidx hix
  -- how much fits
  obtain ⟨r, hr⟩ : ∃ r, r = m % 32 := ⟨_, rfl⟩
  have hrm : (m : Int).tmod 32 = (r : Int) := by rw [Int.tmod_eq_emod_of_nonneg (by omega), hr]; rfl
  have hrm2 : (m : Int) % 32 = (r : Int) := by rw [hr]; rfl
  have hr32 : r < 32 := by omega
  clear hr
  have hf1 := kFits_key (numS s) (1 + (r : Int)) hck (by omega) (by omega)
  rw [hsl] at hf1
  obtain ⟨C1, hC1⟩ : ∃ C1, C1 = strI [(c : Int)] := ⟨_, rfl⟩
  have hC1s : C1.size = 1 := by rw [hC1, strI_size]; rfl
  have HCV : Hid (∀ W : World, Sem.run Tryd.prog (convert 33 9 (.slice (some ⟨W.heap.size, 0, none⟩) 1 1)) (W.alloc (.cells #[.int .u8 c] 5)).drew = .ok (.string C1) (W.alloc (.cells #[.int .u8 c] 5)).drew) := fun W => by
    rw [hC1]
    exact conv_sl ((sl_new W [(c : Int)] 1 rfl (by intro x hx; rw [List.mem_singleton] at hx; subst hx; omega) _).below (drewN_below _ 1))
  rw [← hC1] at hput
  have HPUT := Lib.hid hput
  clear hC1 hput
  have hz1 : ¬ 9223372036854775807 < k + 1 := by omega
  have hz2 : ¬ 9223372036854775807 < k + 1 + (s.size - k) := by omega
  have HCS := Lib.hid hck
  have hts : t.size ≤ 33 := by omega
  by_cases hk0 : isK (c : Int) = false
  · rw [if_pos hk0] at hpc
    have hct := hpc
    have hft := kFits_bad (numS t) (1 + (r : Int)) (by rw [hpc]; decide) (by omega) (by omega)
    rw [hpc] at hft
    have hix0 : ix < 0 := hidx2.2 hk0
    clear hpc hck hidx2 hk0 hk1 hps
    have HCT := Lib.hid hct
    have HFT := Lib.hid hft
    clear hct hft
    by_cases hfi : 1 + (r : Int) < s.size
    · rw [if_pos hfi] at hf1
      have HFS := Lib.hid hf1
      clear hf1
      go_enter Tryd.func8, Tryd.ntmps8
      go_wp2_with fail
      refine (HH.out.madev HSB.out HCB.out HL0.out).mono ?_
      rw [← HS.out]
      rintro e w1 ⟨rfl, hl, hb⟩
      have HL1 := Lib.hid hl
      have HB1 := Lib.hid (below_then5 HB0.out hb)
      clear hl hb HL0 HB0
      go_wp2_with fail
      have hcv := HCV.out
      go_region
      rw [HPUT.out]
      have hb := below_drewN ((Below.refl w1.heap.size w1).alloc (Nat.le_refl _) (.cells #[.int .u8 (c : Int)] 5)) 1
      have hl := HH.out.below w1 _ HL1.out hb
      change L (w1.alloc (.cells #[.int .u8 (c : Int)] 5)).drew at hl
      change Below w1.heap.size w1 (w1.alloc (.cells #[.int .u8 (c : Int)] 5)).drew at hb
      generalize (w1.alloc (.cells #[.int .u8 (c : Int)] 5)).drew = w2 at *
      have HL2 := Lib.hid hl
      have HB2 := Lib.hid (below_then5 HB1.out hb)
      clear hl hb HL1 HB1 hcv HCV HPUT
      go_wp2_with fail
      refine (HH.out.idxv ix HL2.out HIX.out).mono ?_
      rintro e w3 ⟨rfl, hl, hb⟩
      have HL3 := Lib.hid hl
      have HB3 := Lib.hid (below_then5 HB2.out hb)
      clear hl hb HL2 HB2
      go_wp2_with fail
      refine (HH.out.checkv 0 (by omega) HL3.out HCS.out).mono ?_
      rintro e w4 ⟨rfl, hl, hb⟩
      have HL4 := Lib.hid hl
      have HB4 := Lib.hid (below_then5 HB3.out hb)
      clear hl hb HL3 HB3
      go_wp2_with fail
      refine (HH.out.checkv 2 (by omega) HL4.out HCT.out).mono ?_
      rintro e w5 ⟨rfl, hl, hb⟩
      have HL5 := Lib.hid hl
      have HB5 := Lib.hid (below_then5 HB4.out hb)
      clear hl hb HL4 HB4
      go_wp2_with fail
      refine (HH.out.fitsv 12 (by omega) (by omega) (by omega) HL5.out HFS.out).mono ?_
      rintro e w6 ⟨rfl, hl, hb⟩
      have HL6 := Lib.hid hl
      have HB6 := Lib.hid (below_then5 HB5.out hb)
      clear hl hb HL5 HB5
      go_wp2_with fail
      refine (HH.out.fitsv 2 (by omega) (by omega) (by omega) HL6.out HFT.out).mono ?_
      rintro e w7 ⟨rfl, hl, hb⟩
      have HL7 := Lib.hid hl
      have HB7 := Lib.hid (below_then5 HB6.out hb)
      clear hl hb HL6 HB6
      go_wp2_with fail
      refine (works5_any HH.out _ HL7.out).mono ?_
      rintro e wz ⟨rfl, hb⟩
      go_wp2_with fail
      go_ret
      exact ⟨rfl, below_then5 HB7.out hb⟩
    · rw [if_neg hfi] at hf1
      have HFS := Lib.hid hf1
      clear hf1
      go_enter Tryd.func8, Tryd.ntmps8
      go_wp2_with fail
      refine (HH.out.madev HSB.out HCB.out HL0.out).mono ?_
      rw [← HS.out]
      rintro e w1 ⟨rfl, hl, hb⟩
      have HL1 := Lib.hid hl
      have HB1 := Lib.hid (below_then5 HB0.out hb)
      clear hl hb HL0 HB0
      go_wp2_with fail
      have hcv := HCV.out
      go_region
      rw [HPUT.out]
      have hb := below_drewN ((Below.refl w1.heap.size w1).alloc (Nat.le_refl _) (.cells #[.int .u8 (c : Int)] 5)) 1
      have hl := HH.out.below w1 _ HL1.out hb
      change L (w1.alloc (.cells #[.int .u8 (c : Int)] 5)).drew at hl
      change Below w1.heap.size w1 (w1.alloc (.cells #[.int .u8 (c : Int)] 5)).drew at hb
      generalize (w1.alloc (.cells #[.int .u8 (c : Int)] 5)).drew = w2 at *
      have HL2 := Lib.hid hl
      have HB2 := Lib.hid (below_then5 HB1.out hb)
      clear hl hb HL1 HB1 hcv HCV HPUT
      go_wp2_with fail
      refine (HH.out.idxv ix HL2.out HIX.out).mono ?_
      rintro e w3 ⟨rfl, hl, hb⟩
      have HL3 := Lib.hid hl
      have HB3 := Lib.hid (below_then5 HB2.out hb)
      clear hl hb HL2 HB2
      go_wp2_with fail
      refine (HH.out.checkv 0 (by omega) HL3.out HCS.out).mono ?_
      rintro e w4 ⟨rfl, hl, hb⟩
      have HL4 := Lib.hid hl
      have HB4 := Lib.hid (below_then5 HB3.out hb)
      clear hl hb HL3 HB3
      go_wp2_with fail
      refine (HH.out.checkv 2 (by omega) HL4.out HCT.out).mono ?_
      rintro e w5 ⟨rfl, hl, hb⟩
      have HL5 := Lib.hid hl
      have HB5 := Lib.hid (below_then5 HB4.out hb)
      clear hl hb HL4 HB4
      go_wp2_with fail
      refine (HH.out.fitsv 0 (by omega) (by omega) (by omega) HL5.out HFS.out).mono ?_
      rintro e w6 ⟨rfl, hl, hb⟩
      have HL6 := Lib.hid hl
      have HB6 := Lib.hid (below_then5 HB5.out hb)
      clear hl hb HL5 HB5
      go_wp2_with fail
      refine (HH.out.fitsv 2 (by omega) (by omega) (by omega) HL6.out HFT.out).mono ?_
      rintro e w7 ⟨rfl, hl, hb⟩
      have HL7 := Lib.hid hl
      have HB7 := Lib.hid (below_then5 HB6.out hb)
      clear hl hb HL6 HB6
      go_wp2_with fail
      refine (works5_any HH.out _ HL7.out).mono ?_
      rintro e wz ⟨rfl, hb⟩
      go_wp2_with fail
      go_ret
      exact ⟨rfl, below_then5 HB7.out hb⟩
  · rw [if_neg hk0] at hpc
    have hix0 : ¬ ix < 0 := fun e => hk0 (hidx2.1 e)
    by_cases h32 : 32 < s.size + 1
    · rw [if_pos h32] at hpc
      have hct := hpc
      have hft := kFits_bad (numS t) (1 + (r : Int)) (by rw [hpc]; decide) (by omega) (by omega)
      rw [hpc] at hft
      have ht32 : 32 < t.size := by omega
      have ht32i : (32 : Int) < t.size := by omega
      clear hpc hck hidx2 hk0 hk1 hps h32
      have HCT := Lib.hid hct
      have HFT := Lib.hid hft
      clear hct hft
      by_cases hfi : 1 + (r : Int) < s.size
      · rw [if_pos hfi] at hf1
        have HFS := Lib.hid hf1
        clear hf1
        go_enter Tryd.func8, Tryd.ntmps8
        go_wp2_with fail
        refine (HH.out.madev HSB.out HCB.out HL0.out).mono ?_
        rw [← HS.out]
        rintro e w1 ⟨rfl, hl, hb⟩
        have HL1 := Lib.hid hl
        have HB1 := Lib.hid (below_then5 HB0.out hb)
        clear hl hb HL0 HB0
        go_wp2_with fail
        have hcv := HCV.out
        go_region
        rw [HPUT.out]
        have hb := below_drewN ((Below.refl w1.heap.size w1).alloc (Nat.le_refl _) (.cells #[.int .u8 (c : Int)] 5)) 1
        have hl := HH.out.below w1 _ HL1.out hb
        change L (w1.alloc (.cells #[.int .u8 (c : Int)] 5)).drew at hl
        change Below w1.heap.size w1 (w1.alloc (.cells #[.int .u8 (c : Int)] 5)).drew at hb
        generalize (w1.alloc (.cells #[.int .u8 (c : Int)] 5)).drew = w2 at *
        have HL2 := Lib.hid hl
        have HB2 := Lib.hid (below_then5 HB1.out hb)
        clear hl hb HL1 HB1 hcv HCV HPUT
        go_wp2_with fail
        refine (HH.out.idxv ix HL2.out HIX.out).mono ?_
        rintro e w3 ⟨rfl, hl, hb⟩
        have HL3 := Lib.hid hl
        have HB3 := Lib.hid (below_then5 HB2.out hb)
        clear hl hb HL2 HB2
        go_wp2_with fail
        refine (HH.out.checkv 0 (by omega) HL3.out HCS.out).mono ?_
        rintro e w4 ⟨rfl, hl, hb⟩
        have HL4 := Lib.hid hl
        have HB4 := Lib.hid (below_then5 HB3.out hb)
        clear hl hb HL3 HB3
        go_wp2_with fail
        refine (HH.out.checkv 12 (by omega) HL4.out HCT.out).mono ?_
        rintro e w5 ⟨rfl, hl, hb⟩
        have HL5 := Lib.hid hl
        have HB5 := Lib.hid (below_then5 HB4.out hb)
        clear hl hb HL4 HB4
        go_wp2_with fail
        refine (HH.out.fitsv 12 (by omega) (by omega) (by omega) HL5.out HFS.out).mono ?_
        rintro e w6 ⟨rfl, hl, hb⟩
        have HL6 := Lib.hid hl
        have HB6 := Lib.hid (below_then5 HB5.out hb)
        clear hl hb HL5 HB5
        go_wp2_with fail
        refine (HH.out.fitsv 12 (by omega) (by omega) (by omega) HL6.out HFT.out).mono ?_
        rintro e w7 ⟨rfl, hl, hb⟩
        have HL7 := Lib.hid hl
        have HB7 := Lib.hid (below_then5 HB6.out hb)
        clear hl hb HL6 HB6
        go_wp2_with fail
        refine (works5_any HH.out _ HL7.out).mono ?_
        rintro e wz ⟨rfl, hb⟩
        go_wp2_with fail
        go_ret
        exact ⟨rfl, below_then5 HB7.out hb⟩
      · rw [if_neg hfi] at hf1
        have HFS := Lib.hid hf1
        clear hf1
        go_enter Tryd.func8, Tryd.ntmps8
        go_wp2_with fail
        refine (HH.out.madev HSB.out HCB.out HL0.out).mono ?_
        rw [← HS.out]
        rintro e w1 ⟨rfl, hl, hb⟩
        have HL1 := Lib.hid hl
        have HB1 := Lib.hid (below_then5 HB0.out hb)
        clear hl hb HL0 HB0
        go_wp2_with fail
        have hcv := HCV.out
        go_region
        rw [HPUT.out]
        have hb := below_drewN ((Below.refl w1.heap.size w1).alloc (Nat.le_refl _) (.cells #[.int .u8 (c : Int)] 5)) 1
        have hl := HH.out.below w1 _ HL1.out hb
        change L (w1.alloc (.cells #[.int .u8 (c : Int)] 5)).drew at hl
        change Below w1.heap.size w1 (w1.alloc (.cells #[.int .u8 (c : Int)] 5)).drew at hb
        generalize (w1.alloc (.cells #[.int .u8 (c : Int)] 5)).drew = w2 at *
        have HL2 := Lib.hid hl
        have HB2 := Lib.hid (below_then5 HB1.out hb)
        clear hl hb HL1 HB1 hcv HCV HPUT
        go_wp2_with fail
        refine (HH.out.idxv ix HL2.out HIX.out).mono ?_
        rintro e w3 ⟨rfl, hl, hb⟩
        have HL3 := Lib.hid hl
        have HB3 := Lib.hid (below_then5 HB2.out hb)
        clear hl hb HL2 HB2
        go_wp2_with fail
        refine (HH.out.checkv 0 (by omega) HL3.out HCS.out).mono ?_
        rintro e w4 ⟨rfl, hl, hb⟩
        have HL4 := Lib.hid hl
        have HB4 := Lib.hid (below_then5 HB3.out hb)
        clear hl hb HL3 HB3
        go_wp2_with fail
        refine (HH.out.checkv 12 (by omega) HL4.out HCT.out).mono ?_
        rintro e w5 ⟨rfl, hl, hb⟩
        have HL5 := Lib.hid hl
        have HB5 := Lib.hid (below_then5 HB4.out hb)
        clear hl hb HL4 HB4
        go_wp2_with fail
        refine (HH.out.fitsv 0 (by omega) (by omega) (by omega) HL5.out HFS.out).mono ?_
        rintro e w6 ⟨rfl, hl, hb⟩
        have HL6 := Lib.hid hl
        have HB6 := Lib.hid (below_then5 HB5.out hb)
        clear hl hb HL5 HB5
        go_wp2_with fail
        refine (HH.out.fitsv 12 (by omega) (by omega) (by omega) HL6.out HFT.out).mono ?_
        rintro e w7 ⟨rfl, hl, hb⟩
        have HL7 := Lib.hid hl
        have HB7 := Lib.hid (below_then5 HB6.out hb)
        clear hl hb HL6 HB6
        go_wp2_with fail
        refine (works5_any HH.out _ HL7.out).mono ?_
        rintro e wz ⟨rfl, hb⟩
        go_wp2_with fail
        go_ret
        exact ⟨rfl, below_then5 HB7.out hb⟩
    · rw [if_neg h32] at hpc
      have hct := hpc
      have ht32 : ¬ 32 < t.size := by omega
      have ht32i : ¬ (32 : Int) < t.size := by omega
      clear hpc hck hidx2 hk0 hk1 hps h32
      have HCT := Lib.hid hct
      clear hct
      by_cases hfi : 1 + (r : Int) < s.size
      · rw [if_pos hfi] at hf1
        have HFS := Lib.hid hf1
        clear hf1
        go_enter Tryd.func8, Tryd.ntmps8
        go_wp2_with fail
        refine (HH.out.madev HSB.out HCB.out HL0.out).mono ?_
        rw [← HS.out]
        rintro e w1 ⟨rfl, hl, hb⟩
        have HL1 := Lib.hid hl
        have HB1 := Lib.hid (below_then5 HB0.out hb)
        clear hl hb HL0 HB0
        go_wp2_with fail
        have hcv := HCV.out
        go_region
        rw [HPUT.out]
        have hb := below_drewN ((Below.refl w1.heap.size w1).alloc (Nat.le_refl _) (.cells #[.int .u8 (c : Int)] 5)) 1
        have hl := HH.out.below w1 _ HL1.out hb
        change L (w1.alloc (.cells #[.int .u8 (c : Int)] 5)).drew at hl
        change Below w1.heap.size w1 (w1.alloc (.cells #[.int .u8 (c : Int)] 5)).drew at hb
        generalize (w1.alloc (.cells #[.int .u8 (c : Int)] 5)).drew = w2 at *
        have HL2 := Lib.hid hl
        have HB2 := Lib.hid (below_then5 HB1.out hb)
        clear hl hb HL1 HB1 hcv HCV HPUT
        go_wp2_with fail
        refine (HH.out.idxv ix HL2.out HIX.out).mono ?_
        rintro e w3 ⟨rfl, hl, hb⟩
        have HL3 := Lib.hid hl
        have HB3 := Lib.hid (below_then5 HB2.out hb)
        clear hl hb HL2 HB2
        go_wp2_with fail
        refine (HH.out.checkv 0 (by omega) HL3.out HCS.out).mono ?_
        rintro e w4 ⟨rfl, hl, hb⟩
        have HL4 := Lib.hid hl
        have HB4 := Lib.hid (below_then5 HB3.out hb)
        clear hl hb HL3 HB3
        go_wp2_with fail
        refine (HH.out.checkv 0 (by omega) HL4.out HCT.out).mono ?_
        rintro e w5 ⟨rfl, hl, hb⟩
        have HL5 := Lib.hid hl
        have HB5 := Lib.hid (below_then5 HB4.out hb)
        clear hl hb HL4 HB4
        go_wp2_with fail
        refine (HH.out.fitsv 12 (by omega) (by omega) (by omega) HL5.out HFS.out).mono ?_
        rintro e w6 ⟨rfl, hl, hb⟩
        have HL6 := Lib.hid hl
        have HB6 := Lib.hid (below_then5 HB5.out hb)
        clear hl hb HL5 HB5
        go_wp2_with fail
        refine (works5_any HH.out _ HL6.out).mono ?_
        rintro e wz ⟨rfl, hb⟩
        go_wp2_with fail
        go_ret
        exact ⟨rfl, below_then5 HB6.out hb⟩
      · rw [if_neg hfi] at hf1
        have HFS := Lib.hid hf1
        clear hf1
        go_enter Tryd.func8, Tryd.ntmps8
        go_wp2_with fail
        refine (HH.out.madev HSB.out HCB.out HL0.out).mono ?_
        rw [← HS.out]
        rintro e w1 ⟨rfl, hl, hb⟩
        have HL1 := Lib.hid hl
        have HB1 := Lib.hid (below_then5 HB0.out hb)
        clear hl hb HL0 HB0
        go_wp2_with fail
        have hcv := HCV.out
        go_region
        rw [HPUT.out]
        have hb := below_drewN ((Below.refl w1.heap.size w1).alloc (Nat.le_refl _) (.cells #[.int .u8 (c : Int)] 5)) 1
        have hl := HH.out.below w1 _ HL1.out hb
        change L (w1.alloc (.cells #[.int .u8 (c : Int)] 5)).drew at hl
        change Below w1.heap.size w1 (w1.alloc (.cells #[.int .u8 (c : Int)] 5)).drew at hb
        generalize (w1.alloc (.cells #[.int .u8 (c : Int)] 5)).drew = w2 at *
        have HL2 := Lib.hid hl
        have HB2 := Lib.hid (below_then5 HB1.out hb)
        clear hl hb HL1 HB1 hcv HCV HPUT
        go_wp2_with fail
        refine (HH.out.idxv ix HL2.out HIX.out).mono ?_
        rintro e w3 ⟨rfl, hl, hb⟩
        have HL3 := Lib.hid hl
        have HB3 := Lib.hid (below_then5 HB2.out hb)
        clear hl hb HL2 HB2
        go_wp2_with fail
        refine (HH.out.checkv 0 (by omega) HL3.out HCS.out).mono ?_
        rintro e w4 ⟨rfl, hl, hb⟩
        have HL4 := Lib.hid hl
        have HB4 := Lib.hid (below_then5 HB3.out hb)
        clear hl hb HL3 HB3
        go_wp2_with fail
        refine (HH.out.checkv 0 (by omega) HL4.out HCT.out).mono ?_
        rintro e w5 ⟨rfl, hl, hb⟩
        have HL5 := Lib.hid hl
        have HB5 := Lib.hid (below_then5 HB4.out hb)
        clear hl hb HL4 HB4
        go_wp2_with fail
        refine (HH.out.fitsv 0 (by omega) (by omega) (by omega) HL5.out HFS.out).mono ?_
        rintro e w6 ⟨rfl, hl, hb⟩
        have HL6 := Lib.hid hl
        have HB6 := Lib.hid (below_then5 HB5.out hb)
        clear hl hb HL5 HB5
        go_wp2_with fail
        refine (works5_any HH.out _ HL6.out).mono ?_
        rintro e wz ⟨rfl, hb⟩
        go_wp2_with fail
        go_ret
        exact ⟨rfl, below_then5 HB6.out hb⟩
end Go.Proofs.YtogkabdampkbjaaDoor
