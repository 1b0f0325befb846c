/- CrcChanges: the walk, over the contracts of package crc. -/
import Derived.Test.YtdjpoffanfgmmaaCrcLaw5
namespace Go.Proofs.Ytdjpoffanfgmmaa
open Go Go.RowKit

theorem bv_beq7 (x y : BitVec 32) (v : Bool) (h : (x == y) = v) : ((x.toNat : Int) == (y.toNat : Int)) = v := by
  rw [← h, Bool.eq_iff_iff, beq_iff_eq, beq_iff_eq]
  constructor
  · intro h; exact BitVec.eq_of_toNat_eq (by omega)
  · rintro rfl; rfl

theorem two_pow_u8 (r : Nat) (hr : r < 8) : 2 ^ r < 256 := by
  have : r = 0 ∨ r = 1 ∨ r = 2 ∨ r = 3 ∨ r = 4 ∨ r = 5 ∨ r = 6 ∨ r = 7 := by omega
  rcases this with rfl | rfl | rfl | rfl | rfl | rfl | rfl | rfl <;> decide

/-- One bit of a row of bytes is turned. -/
theorem bitAt_set (l : List Int) (hr : ∀ y ∈ l, 0 ≤ y ∧ y < 256) (k : Nat) (hk : k < 8 * l.length) :
    (0 ≤ bits .xor .u8 (l.getD (k / 8) 0) ((2 ^ (k % 8) : Nat) : Int) ∧ bits .xor .u8 (l.getD (k / 8) 0) ((2 ^ (k % 8) : Nat) : Int) < 256) ∧
    ∀ q, bitAt (l.set (k / 8) (bits .xor .u8 (l.getD (k / 8) 0) ((2 ^ (k % 8) : Nat) : Int))) q = xor (bitAt l q) (decide (q = k)) := by
  have hkl : k / 8 < l.length := by omega
  have hv : 0 ≤ l.getD (k / 8) 0 ∧ l.getD (k / 8) 0 < 256 := by
    simp only [List.getD_eq_getElem?_getD, List.getElem?_eq_getElem hkl, Option.getD_some]
    exact hr _ (List.getElem_mem _)
  obtain ⟨n, hn⟩ := Int.eq_ofNat_of_zero_le hv.1
  have hp := two_pow_u8 (k % 8) (Nat.mod_lt _ (by decide))
  have hx : n ^^^ 2 ^ (k % 8) < 2 ^ 8 := Nat.xor_lt_two_pow (by omega) hp
  rw [hn, xor_u8 n (2 ^ (k % 8)) (by omega) hp]
  refine ⟨⟨by omega, by omega⟩, fun q => ?_⟩
  unfold bitAt
  by_cases hq : q / 8 = k / 8
  · have e1 : (l.set (k / 8) ((n ^^^ 2 ^ (k % 8) : Nat) : Int)).getD (q / 8) 0 = ((n ^^^ 2 ^ (k % 8) : Nat) : Int) := by
      rw [hq]; simp [List.getD, hkl]
    rw [e1, hq, hn, Int.toNat_natCast, Int.toNat_natCast, Nat.testBit_xor, Nat.testBit_two_pow]
    congr 1
    rw [decide_eq_decide]
    omega
  · have e1 : (l.set (k / 8) ((n ^^^ 2 ^ (k % 8) : Nat) : Int)).getD (q / 8) 0 = l.getD (q / 8) 0 := by
      simp only [List.getD_eq_getElem?_getD]
      rw [List.getElem?_set_ne (fun h => hq h.symm)]
    have e2 : decide (q = k) = false := by
      rw [decide_eq_false_iff_not]; rintro rfl; exact hq rfl
    rw [e1, e2, Bool.xor_false]

/-- What stands after i bits: the row of bytes, and whether a bit was turned. -/
structure Chg (B C : List Int) (at_ : Nat) (W : BitVec 32) (i : Nat) (chg : Bool) : Prop where
  len : C.length = B.length
  rng : ∀ y ∈ C, 0 ≤ y ∧ y < 256
  bit : ∀ q, q < 8 * B.length → bitAt C q = xor (bitAt B q) (decide (at_ ≤ q) && (decide (q - at_ < i) && W.getLsbD (q - at_)))
  chg : chg = true ↔ ∃ j, j < i ∧ W.getLsbD j = true ∧ at_ + j < 8 * B.length

theorem Chg.zero (B : List Int) (hB : ∀ y ∈ B, 0 ≤ y ∧ y < 256) (at_ : Nat) (W : BitVec 32) : Chg B B at_ W 0 false := by
  refine ⟨rfl, hB, fun q _ => by simp, ?_⟩
  constructor
  · intro h; cases h
  · rintro ⟨j, hj, _⟩; omega

theorem Chg.miss {B C : List Int} {at_ : Nat} {W : BitVec 32} {i : Nat} {chg : Bool} (h : Chg B C at_ W i chg) (hm : W.getLsbD i = false ∨ 8 * B.length ≤ at_ + i) : Chg B C at_ W (i + 1) chg := by
  refine ⟨h.len, h.rng, fun q hq => ?_, ?_⟩
  · rw [h.bit q hq]
    congr 1
    by_cases hat : at_ ≤ q
    · simp only [hat, decide_true, Bool.true_and]
      by_cases hqi : q - at_ = i
      · rcases hm with hm | hm
        · rw [hqi, hm, Bool.and_false, Bool.and_false]
        · omega
      · congr 1
        rw [decide_eq_decide]; omega
    · simp [hat]
  · rw [h.chg]
    constructor
    · rintro ⟨j, hj, h1, h2⟩; exact ⟨j, by omega, h1, h2⟩
    · rintro ⟨j, hj, h1, h2⟩
      refine ⟨j, ?_, h1, h2⟩
      rcases Nat.lt_or_ge j i with hji | hji
      · exact hji
      · have : j = i := by omega
        subst this
        rcases hm with hm | hm
        · rw [hm] at h1; cases h1
        · omega

theorem Chg.hit {B C : List Int} {at_ : Nat} {W : BitVec 32} {i : Nat} {chg : Bool} (h : Chg B C at_ W i chg) (h1 : W.getLsbD i = true) (h2 : at_ + i < 8 * B.length) :
    Chg B (C.set ((at_ + i) / 8) (bits .xor .u8 (C.getD ((at_ + i) / 8) 0) ((2 ^ ((at_ + i) % 8) : Nat) : Int))) at_ W (i + 1) true := by
  have hs := bitAt_set C h.rng (at_ + i) (by rw [h.len]; exact h2)
  refine ⟨by rw [List.length_set, h.len], fun y hy => ?_, fun q hq => ?_, ?_⟩
  · rcases List.mem_or_eq_of_mem_set hy with hy | rfl
    · exact h.rng y hy
    · exact hs.1
  · rw [hs.2 q, h.bit q hq, Bool.xor_assoc]
    congr 1
    by_cases hat : at_ ≤ q
    · simp only [hat, decide_true, Bool.true_and]
      by_cases hqi : q = at_ + i
      · subst hqi
        rw [Nat.add_sub_cancel_left, h1]
        simp
      · have e1 : decide (q = at_ + i) = false := by simp [hqi]
        rw [e1, Bool.xor_false]
        congr 1
        rw [decide_eq_decide]; omega
    · have e1 : decide (q = at_ + i) = false := by simp; omega
      simp [hat, e1]
  · constructor
    · intro _; exact ⟨i, by omega, h1, h2⟩
    · intro _; rfl

/-- What the law says in the end. -/
theorem Chg.done {B C : List Int} {at_ : Nat} {W : BitVec 32} {chg : Bool} (h : Chg B C at_ W 32 chg) (hB : ∀ y ∈ B, 0 ≤ y ∧ y < 256) (hat : at_ ≤ 8 * B.length) : (crcU 0#32 B == crcU 0#32 C) = !chg := by
  obtain ⟨V, hV⟩ : ∃ V : BitVec 32, ∀ i, V.getLsbD i = (W.getLsbD i && decide (at_ + i < 8 * B.length)) := by
    refine ⟨lowk W (8 * B.length - at_), fun i => ?_⟩
    rw [lowk_bit, Bool.and_comm]
    congr 1
    rw [decide_eq_decide]
    omega
  have hw := crcU_window B C hB h.rng h.len at_ V hat (fun i hi => by rw [hV]; simp; omega) (fun q hq => by
    rw [h.bit q hq, hV]
    congr 1
    by_cases hat : at_ ≤ q
    · simp only [hat, decide_true, Bool.true_and]
      have e1 : decide (at_ + (q - at_) < 8 * B.length) = true := by simp; omega
      rw [e1, Bool.and_true]
      by_cases h32 : q - at_ < 32
      · simp [h32]
      · rw [BitVec.getLsbD_of_ge W _ (by omega)]; simp
    · simp [hat])
  have hz : V = 0#32 ↔ chg = false := by
    constructor
    · intro hV0
      cases hc : chg with
      | false => rfl
      | true =>
        obtain ⟨j, hj, h1, h2⟩ := h.chg.1 hc
        have := hV j
        rw [hV0, h1] at this
        simp [h2] at this
    · intro hc
      apply BitVec.eq_of_getLsbD_eq
      intro i hi
      rw [hV, BitVec.getLsbD_zero]
      cases h1 : W.getLsbD i with
      | false => rfl
      | true =>
        by_cases h2 : at_ + i < 8 * B.length
        · have := h.chg.2 ⟨i, hi, h1, h2⟩
          rw [hc] at this; cases this
        · simp [h2]
  rw [Bool.eq_iff_iff, beq_iff_eq, hw, hz]
  cases chg <;> simp

set_option maxHeartbeats 6400000 in
set_option maxRecDepth 100000 in
theorem crcChanges_sl {L : World → Prop} (H : CrcOk L) (p : Option Addr) (len cap : Nat) (xs : List Int) (bt : BitVec 32) (n : Nat) (w : World) (h : L w) (hS : Sl w p len cap xs) (hn : n < 65536) :
    Calls Try.prog 8 #[.slice p len cap, .int .u32 (bt.toNat : Int), .int .u16 n] w fun e w' => e = .returned (.bool true) ∧ Below w.heap.size w w' := by
  have HH := Lib.hid H
  have HL := Lib.hid h
  have HS := Lib.hid hS
  have hlc := hS.cap
  clear H h hS
  obtain ⟨i0, hi, hi0, hi1, hi2⟩ := info_parts Try.info8u
  by_cases hbig : 1000 < len
  · go_enter Try.func8, Try.ntmps8
    go_wp2_with fail
    refine (works2_any HH.out _ HL.out).mono ?_
    rintro e w1 ⟨rfl, hb⟩
    go_wp2_with fail
    go_ret
    exact ⟨rfl, hb⟩
  by_cases hz : len = 0
  · have hzi : (len : Int) = 0 := by omega
    go_enter Try.func8, Try.ntmps8
    go_wp2_with fail
    refine (works2_any HH.out _ HL.out).mono ?_
    rintro e w1 ⟨rfl, hb⟩
    go_wp2_with fail
    go_ret
    exact ⟨rfl, hb⟩
  by_cases hbz : (bt.toNat : Int) = 0
  · have hzi : ¬ (len : Int) = 0 := by omega
    go_enter Try.func8, Try.ntmps8
    go_wp2_with fail
    refine (works2_any HH.out _ HL.out).mono ?_
    rintro e w1 ⟨rfl, hb⟩
    go_wp2_with fail
    go_ret
    exact ⟨rfl, hb⟩
  · obtain ⟨b0, o0, rfl, hc0⟩ := HS.out.bytes (by omega)
    have h1000 : ¬ (1000 : Int) < (len : Int) := by omega
    have hlen0 : ((len : Int) == 0) = false := by rw [beq_eq_false_iff_ne]; omega
    have hbt0 : ((bt.toNat : Int) == 0) = false := by rw [beq_eq_false_iff_ne]; exact hbz
    obtain ⟨at_, hat, hatl⟩ : ∃ at_ : Nat, (n : Int) % (8 * (len : Int)) = (at_ : Int) ∧ at_ < 8 * len := ⟨n % (8 * len), by simp, Nat.mod_lt _ (by omega)⟩
    have hbA : Below w.heap.size w (w.alloc (.cells #[] 5)) := (Below.refl _ _).alloc (Nat.le_refl _) _
    have hownA : (w.alloc (.cells #[] 5)).ownsRow w.heap.size 5 1 (.slice (some ⟨w.heap.size, 0, none⟩) 0 0) 0 [] := World.ownsRow_made _ _ 0 (Nat.le_refl _) (Nat.zero_le _) rfl
    have HBA := Lib.hid hbA
    have HOA := Lib.hid hownA
    have HSA := Lib.hid (HS.out.below hbA)
    clear hbA hownA hc0 hbz hz
    have HCX := Lib.hid (cells_of_in HSA.out.len HSA.out.bytes _ rfl)
    have HXl := Lib.hid HSA.out.len
    go_enter Try.func8, Try.ntmps8
    go_wp2_with (at_builtin; refine wpList_append_own _ rfl _ _ 22 rfl w.heap.size 5 i0 (.int .u8 0) 1 1 Try.underlying22 hi hi0 hi1 hi2 rfl (by decide) _ _ _ rfl HOA.out ⟨b0, o0, none⟩ len cap (xs.map (Value.int .u8)) rfl (by rw [List.length_map, HXl.out]; omega) HCX.out (ints_oneCell _ _) (by unfold maxLen; omega) (by omega) (by simp) ?_; intro v1 w1 hown1 hgrow1 hnil1)
    rw [Nat.zero_add, List.nil_append] at hown1
    obtain ⟨g, c1, hv1, hgw⟩ : ∃ g c1, v1 = .slice (some ⟨g, 0, none⟩) len c1 ∧ w.heap.size ≤ g := by
      rcases hown1.2 with ⟨_, h⟩ | ⟨g, cap', cur, e, hb, _⟩
      · omega
      · exact ⟨g, cap', e, hb⟩
    subst hv1
    have HB1 := Lib.hid (HBA.out.grown hgrow1 (by simp) (fun r hr => by cases hr; exact Nat.le_refl _))
    have HG1 : Hid (w1.ownsRow w.heap.size 5 1 (.slice (some ⟨g, 0, none⟩) len c1) len (xs.map (Value.int .u8)) ∧ Below w.heap.size w w1 ∧ Chg xs xs at_ bt 0 false) := ⟨hown1, HB1.out, Chg.zero xs HS.out.rng at_ bt⟩
    clear hown1 hgrow1 hnil1 HB1
    go_wp2
    go_loopw [9, 10] (fun vc i wr => ∃ (k : Nat) (chg : Bool) (C : List Int), k ≤ 32 ∧ i = .int .i64 k ∧ vc = .bool chg ∧ Hid (wr.ownsRow w.heap.size 5 1 (.slice (some ⟨g, 0, none⟩) len c1) len (C.map (Value.int .u8)) ∧ Below w.heap.size w wr ∧ Chg xs C at_ bt k chg))
      (fun _ i _ => 32 - (intOf i).toNat)
    case atStart => exact ⟨0, false, xs, by omega, rfl, rfl, HG1⟩
    case round =>
      obtain ⟨k, chg, C, hk, rfl, rfl, HR⟩ := hrel
      by_cases hlt : k < 32
      · have hb := and1_u32 (bt >>> k)
        rw [← shr_u32, bit_shr] at hb
        obtain ⟨kk, hkk⟩ : ∃ kk : Nat, (at_ : Int) + (k : Int) = (kk : Int) := ⟨at_ + k, by omega⟩
        have hkkn : kk = at_ + k := by omega
        have hkkb : kk < 8100 := by omega
        have HKk := Lib.hid hkkn
        clear hkkn
        cases hx : bt.getLsbD k with
        | false =>
          rw [hx, if_neg (by decide)] at hb
          have HN : Hid (wr.ownsRow w.heap.size 5 1 (.slice (some ⟨g, 0, none⟩) len c1) len (C.map (Value.int .u8)) ∧ Below w.heap.size w wr ∧ Chg xs C at_ bt (k + 1) chg) := ⟨HR.out.1, HR.out.2.1, HR.out.2.2.miss (.inl hx)⟩
          clear HR hx
          go_wp2
          go_roundw
          case rel => exact ⟨k + 1, chg, C, by omega, by go_num, rfl, HN⟩
          case measure => simp [intOf]; omega
        | true =>
          rw [hx, if_pos rfl] at hb
          by_cases hin : kk < 8 * len
          · have hin' : (kk : Int) < 8 * (len : Int) := by omega
            obtain ⟨q, hqd⟩ : ∃ q, q = kk / 8 := ⟨_, rfl⟩
            obtain ⟨r, hrd⟩ : ∃ r, r = kk % 8 := ⟨_, rfl⟩
            have hh := HR.out.2.2.hit hx (by have := HKk.out; rw [HXl.out]; omega)
            rw [← HKk.out, ← hqd, ← hrd] at hh
            have hq : (kk : Int) / 8 = (q : Int) := by omega
            have hr : (kk : Int) % 8 = (r : Int) := by omega
            have hql : q < len := by omega
            have hq0 : (0 : Int) ≤ (q : Int) := by omega
            have hql' : (q : Int) < (len : Int) := by omega
            have hr8 : r < 8 := by omega
            have h2 : (2 : Int) ^ r % 256 = ((2 ^ r : Nat) : Int) := by
              have := two_pow_u8 r hr8
              have e : (2 : Int) ^ r = ((2 ^ r : Nat) : Int) := by simp
              rw [e]
              generalize (2 ^ r : Nat) = P at *
              omega
            have hClen : C.length = len := by have := HR.out.2.2.len; rw [HXl.out] at this; exact this
            have hcell : wr.cell? ⟨g, q, none⟩ = some (.int .u8 (C.getD q 0)) := by
              rw [HR.out.1.cellAt q (by omega)]; simp [List.getD, show q < C.length by omega]
            have hfr := HR.out.1.frozenAt q
            have hs2 := HR.out.1.stored q (.int .u8 (bits .xor .u8 (C.getD q 0) ((2 ^ r : Nat) : Int)))
            have HN : Hid ((wr.setCell ⟨g, q, none⟩ (.int .u8 (bits .xor .u8 (C.getD q 0) ((2 ^ r : Nat) : Int)))).ownsRow w.heap.size 5 1 (.slice (some ⟨g, 0, none⟩) len c1) len ((C.set q (bits .xor .u8 (C.getD q 0) ((2 ^ r : Nat) : Int))).map (Value.int .u8)) ∧ Below w.heap.size w (wr.setCell ⟨g, q, none⟩ (.int .u8 (bits .xor .u8 (C.getD q 0) ((2 ^ r : Nat) : Int)))) ∧ Chg xs (C.set q (bits .xor .u8 (C.getD q 0) ((2 ^ r : Nat) : Int))) at_ bt (k + 1) true) := by
              refine ⟨?_, HR.out.2.1.grown hs2.2 HR.out.2.1.size (fun r hr => by cases hr; exact hgw), hh⟩
              have := hs2.1
              rwa [← List.map_set] at this
            generalize C.getD q 0 = zc at *
            generalize (2 ^ r : Nat) = pr at *
            clear HR hx hh hs2 hqd hrd hClen
            go_wp2
            go_roundw
            case rel => exact ⟨k + 1, true, _, by omega, by go_num, rfl, HN⟩
            case measure => simp [intOf]; omega
          · have HN : Hid (wr.ownsRow w.heap.size 5 1 (.slice (some ⟨g, 0, none⟩) len c1) len (C.map (Value.int .u8)) ∧ Below w.heap.size w wr ∧ Chg xs C at_ bt (k + 1) chg) := ⟨HR.out.1, HR.out.2.1, HR.out.2.2.miss (.inr (by have := HKk.out; rw [HXl.out]; omega))⟩
            have hin' : ¬ (kk : Int) < 8 * (len : Int) := by omega
            clear HR hx
            go_wp2
            go_roundw
            case rel => exact ⟨k + 1, chg, C, by omega, by go_num, rfl, HN⟩
            case measure => simp [intOf]; omega
      · have hk32 : k = 32 := by omega
        subst hk32
        have hsc : Sl wr (some ⟨g, 0, none⟩) len c1 C := by
          obtain ⟨p', n', c', hv, hs⟩ := sl_owns HR.out.1 HR.out.2.2.rng
          cases hv
          exact hs
        have hd := HR.out.2.2.done HS.out.rng (by rw [HXl.out]; omega)
        obtain ⟨cx, hcx⟩ : ∃ cx, cx = crcU 0#32 xs := ⟨_, rfl⟩
        obtain ⟨cy, hcy⟩ : ∃ cy, cy = crcU 0#32 C := ⟨_, rfl⟩
        rw [← hcx, ← hcy] at hd
        have hdi := bv_beq7 cx cy _ hd
        have hd2 : (cy == cx) = !chg := by rw [← hd, Bool.eq_iff_iff, beq_iff_eq, beq_iff_eq]; exact ⟨Eq.symm, Eq.symm⟩
        have HSC := Lib.hid hsc
        have HBr := Lib.hid HR.out.2.1
        have HSr := Lib.hid (HS.out.below HR.out.2.1)
        have HLr := Lib.hid (HH.out.below _ _ HL.out HR.out.2.1)
        have HD2 := Lib.hid hd2
        have HDi := Lib.hid hdi
        have HCx := Lib.hid hcx
        have HCy := Lib.hid hcy
        clear hsc hd hdi hd2 hcx hcy HR
        go_wp2_with fail
        have hc1 := HH.out.sum _ _ _ _ _ (by omega) HSr.out HLr.out
        rw [← HCx.out] at hc1
        refine hc1.mono ?_
        clear hc1
        rintro e w2 ⟨rfl, hb⟩
        have HSC2 := Lib.hid (HSC.out.below hb)
        have HL2 := Lib.hid (HH.out.below _ _ HLr.out hb)
        have HB2 := Lib.hid (HBr.out.trans (hb.mono HBr.out.size))
        clear hb
        go_wp2_with fail
        have hc1 := HH.out.sum _ _ _ _ _ (by omega) HSC2.out HL2.out
        rw [← HCy.out] at hc1
        refine hc1.mono ?_
        clear hc1
        rintro e w3 ⟨rfl, hb⟩
        have HSC3 := Lib.hid (HSC2.out.below hb)
        have HL3 := Lib.hid (HH.out.below _ _ HL2.out hb)
        have HB3 := Lib.hid (HB2.out.trans (hb.mono HB2.out.size))
        clear hb
        have hc1 := HH.out.valid cx _ _ _ _ _ (by omega) HSC3.out HL3.out
        rw [← HCy.out, HD2.out] at hc1
        have HV := Lib.hid hc1
        clear hc1
        cases chg with
        | false =>
          have e : cy = cx := by
            have := HD2.out
            rwa [Bool.not_false, beq_iff_eq] at this
          subst e
          clear HD2 HDi HCx HCy
          generalize cy.toNat = xn at *
          go_wp2_with fail
          refine HV.out.mono ?_
          rintro e w4 ⟨rfl, hb⟩
          have HL4 := Lib.hid (HH.out.below _ _ HL3.out hb)
          have HB4 := Lib.hid (HB3.out.trans (hb.mono HB3.out.size))
          clear hb
          go_wp2_with fail
          refine (works2_any HH.out _ HL4.out).mono ?_
          rintro e w5 ⟨rfl, hb5⟩
          go_wp2_with fail
          go_ret
          exact ⟨rfl, HB4.out.trans (hb5.mono HB4.out.size)⟩
        | true =>
          have hne : ¬ ((cx.toNat : Int) = (cy.toNat : Int)) := by
            have := HDi.out
            rwa [Bool.not_true, beq_eq_false_iff_ne] at this
          have hne2 : ((cx.toNat : Int) == (cy.toNat : Int)) = false := by rw [beq_eq_false_iff_ne]; exact hne
          clear HD2 HDi HCx HCy
          generalize cx.toNat = xn at *
          generalize cy.toNat = yn at *
          go_wp2_with fail
          refine HV.out.mono ?_
          rintro e w4 ⟨rfl, hb⟩
          have HL4 := Lib.hid (HH.out.below _ _ HL3.out hb)
          have HB4 := Lib.hid (HB3.out.trans (hb.mono HB3.out.size))
          clear hb
          go_wp2_with fail
          refine (works2_any HH.out _ HL4.out).mono ?_
          rintro e w5 ⟨rfl, hb5⟩
          go_wp2_with fail
          go_ret
          exact ⟨congrArg (fun v => Ending.returned (Value.bool v)) (show ((xn : Int) != (yn : Int)) = true by rw [bne, hne2]; rfl), HB4.out.trans (hb5.mono HB4.out.size)⟩
end Go.Proofs.Ytdjpoffanfgmmaa
