/- CrcLinear: the walk, over the contracts of package crc. -/
import Derived.Test.YtdjpoffanfgmmaaCrcApi
import Derived.StillTailTactics
import Derived.Deep.RegionWith
namespace Go.Proofs.Ytdjpoffanfgmmaa
open Go Go.RowKit

theorem xor_u8 (a b : Nat) (ha : a < 256) (hb : b < 256) : bits .xor .u8 (a : Int) (b : Int) = ((a ^^^ b : Nat) : Int) := by
  have hx : a ^^^ b < 2 ^ 8 := Nat.xor_lt_two_pow (by omega) (by omega)
  show IntKind.u8.wrap ((BitVec.ofInt 8 (a : Int) ^^^ BitVec.ofInt 8 (b : Int)).toNat : Int) = _
  rw [BitVec.ofInt_natCast, BitVec.ofInt_natCast, BitVec.toNat_xor, BitVec.toNat_ofNat, BitVec.toNat_ofNat, Nat.mod_eq_of_lt (by omega : a < 2 ^ 8), Nat.mod_eq_of_lt (by omega : b < 2 ^ 8)]
  have e : ∀ n : Int, IntKind.u8.wrap n = n % 256 := fun n => by simp [IntKind.wrap, IntKind.bits, IntKind.signed]
  rw [e]; omega

theorem cbv_xor (a b : Nat) : cbv ((a ^^^ b : Nat) : Int) = cbv a ^^^ cbv b := by
  rw [cbv_ofNat, cbv_ofNat, cbv_ofNat]
  apply BitVec.eq_of_toNat_eq
  rw [BitVec.toNat_xor, BitVec.toNat_ofNat, BitVec.toNat_ofNat, BitVec.toNat_ofNat]
  exact Nat.xor_mod_two_pow

/-- The xor of three bytes. -/
def x3 (a b c : Int) : Int := bits .xor .u8 (bits .xor .u8 a b) c

theorem x3_eq (a b c : Int) (ha : 0 ≤ a ∧ a < 256) (hb : 0 ≤ b ∧ b < 256) (hc : 0 ≤ c ∧ c < 256) : 0 ≤ x3 a b c ∧ x3 a b c < 256 ∧ cbv (x3 a b c) = cbv a ^^^ cbv b ^^^ cbv c := by
  obtain ⟨i, rfl⟩ := Int.eq_ofNat_of_zero_le ha.1
  obtain ⟨j, rfl⟩ := Int.eq_ofNat_of_zero_le hb.1
  obtain ⟨k, rfl⟩ := Int.eq_ofNat_of_zero_le hc.1
  have h1 : i ^^^ j < 2 ^ 8 := Nat.xor_lt_two_pow (by omega) (by omega)
  have h2 : i ^^^ j ^^^ k < 2 ^ 8 := Nat.xor_lt_two_pow h1 (by omega)
  have e : x3 i j k = ((i ^^^ j ^^^ k : Nat) : Int) := by
    unfold x3
    rw [xor_u8 i j (by omega) (by omega), xor_u8 (i ^^^ j) k (by omega) (by omega)]
  rw [e]
  exact ⟨by omega, by omega, by rw [cbv_xor, cbv_xor]⟩

/-- The first k of n numbers are laid, the others are 0. -/
def rowUpto (K : IntKind) (f : Nat → Int) (n k : Nat) : List Value := (List.range n).map fun j => Value.int K (if j < k then f j else 0)

theorem rowUpto_zero (K : IntKind) (f : Nat → Int) (n : Nat) : rowUpto K f n 0 = (madeCells (Value.int K 0).cells (n * 1)).toList := by
  rw [show (Value.int K 0).cells = #[Value.int K 0] from rfl, toList_madeCells_one, Nat.mul_one]
  unfold rowUpto
  apply List.ext_getElem?
  intro j
  simp only [Nat.not_lt_zero, if_false, List.getElem?_map, List.getElem?_replicate]
  by_cases hj : j < n
  · rw [List.getElem?_range hj, if_pos hj]; rfl
  · rw [if_neg hj, List.getElem?_eq_none (by simp; omega)]; rfl

theorem rowUpto_set (K : IntKind) (f : Nat → Int) (n k : Nat) (hk : k < n) : (rowUpto K f n k).set k (Value.int K (f k)) = rowUpto K f n (k + 1) := by
  unfold rowUpto
  apply List.ext_getElem?
  intro j
  rw [List.getElem?_set]
  simp only [List.length_map, List.length_range, List.getElem?_map]
  by_cases hj : j < n
  · rw [List.getElem?_range hj]
    by_cases hjk : k = j
    · subst hjk; simp [hk]
    · rw [if_neg hjk]
      simp only [Option.map_some]
      congr 2
      by_cases h1 : j < k
      · rw [if_pos h1, if_pos (by omega)]
      · rw [if_neg h1, if_neg (by omega)]
  · have e1 : (List.range n)[j]? = none := by simp; omega
    rw [e1, if_neg (by omega)]
    rfl

theorem rowUpto_get (K : IntKind) (f : Nat → Int) (n k : Nat) (hk : k < n) : (rowUpto K f n k)[k]? = some (Value.int K 0) := by
  unfold rowUpto; simp [hk]

theorem rowUpto_all (K : IntKind) (f : Nat → Int) (n : Nat) : rowUpto K f n n = ((List.range n).map f).map (Value.int K) := by
  unfold rowUpto
  rw [List.map_map]
  apply List.map_congr_left
  intro j hj
  rw [List.mem_range] at hj
  simp [hj]

theorem Try.info8u : (Try.prog.info? 5).map (fun i => (i.zero, i.size, i.bytes)) = some (some (.int .u8 0), 1, 1) := by kernel_rfl

/-- A world in which all that the last line reads stands. -/
structure LinG (L : World → Prop) (w : World) (pa : Option Addr) (ca : Nat) (A : List Int) (pb : Option Addr) (cb : Nat) (B : List Int) (pc : Option Addr) (cc : Nat) (C : List Int) (px : Option Addr) (X : List Int) (n : Nat) (W : World) : Prop where
  l : L W
  b : Below w.heap.size w W
  a : Sl W pa n ca A
  bb : Sl W pb n cb B
  c : Sl W pc n cc C
  x : Sl W px n n X

theorem LinG.step {L : World → Prop} (H : CrcOk L) {w : World} {pa : Option Addr} {ca : Nat} {A : List Int} {pb : Option Addr} {cb : Nat} {B : List Int} {pc : Option Addr} {cc : Nat} {C : List Int} {px : Option Addr} {X : List Int} {n : Nat} {W W' : World} (h : LinG L w pa ca A pb cb B pc cc C px X n W) (hb : Below W.heap.size W W') :
    LinG L w pa ca A pb cb B pc cc C px X n W' :=
  ⟨H.below _ _ h.l hb, h.b.trans (hb.mono h.b.size), h.a.below hb, h.bb.below hb, h.c.below hb, h.x.below hb⟩

set_option maxHeartbeats 12800000 in
set_option maxRecDepth 100000 in
theorem crcLinear_sl {L : World → Prop} (H : CrcOk L) (pa : Option Addr) (la ca : Nat) (A : List Int) (pb : Option Addr) (lb cb : Nat) (B : List Int) (pc : Option Addr) (lc cc : Nat) (C : List Int) (w : World) (h : L w)
    (hA : Sl w pa la ca A) (hB : Sl w pb lb cb B) (hC : Sl w pc lc cc C) :
    Calls Try.prog 9 #[.slice pa la ca, .slice pb lb cb, .slice pc lc cc] w fun e w' => e = .returned (.bool true) ∧ Below w.heap.size w w' := by
  have HH := Lib.hid H
  have HL := Lib.hid h
  obtain ⟨i0, hi, hi0, hi1, hi2⟩ := info_parts Try.info8u
  obtain ⟨q, hq⟩ : ∃ q : Nat, min (lb : Int) (lc : Int) = (q : Int) := ⟨min lb lc, by omega⟩
  obtain ⟨n, hn⟩ : ∃ n : Nat, min (la : Int) (q : Int) = (n : Int) := ⟨min la q, by omega⟩
  have hna : n ≤ la := by omega
  have hnb : n ≤ lb := by omega
  have hnc : n ≤ lc := by omega
  have hac := hA.cap
  have hbc := hB.cap
  have hcc := hC.cap
  have HA := Lib.hid hA
  have HB := Lib.hid hB
  have HC := Lib.hid hC
  clear H h hA hB hC
  by_cases hbig : 500 < n
  · go_enter Try.func9, Try.ntmps9
    go_wp2_with fail
    refine (works2_any HH.out _ HL.out).mono ?_
    rintro e w1 ⟨rfl, hb⟩
    go_wp2_with fail
    go_ret
    exact ⟨rfl, hb⟩
  · go_enter Try.func9, Try.ntmps9
    go_wp2_with (at_make; refine wpList_make_full _ rfl _ _ 22 rfl w.heap.size 5 i0 (.int .u8 0) 1 Try.underlying22 hi hi0 hi1 _ _ _ _ n rfl rfl rfl rfl (by rw [hi2]; omega) (by unfold maxLen; omega) (Nat.le_refl _) ?_; intro w1 hown1 hg1)
    have hb1 : Below w.heap.size w w1 := ⟨hg1.os, hg1.tape, hg1.output, hg1.size, fun k hk => hg1.block k hk (by simp)⟩
    obtain ⟨f, hf⟩ : ∃ f : Nat → Int, f = fun i => x3 (A.getD i 0) (B.getD i 0) (C.getD i 0) := ⟨_, rfl⟩
    have HW1 : Hid (w1.ownsRow w.heap.size 5 1 (.slice (some ⟨w.heap.size, 0, none⟩) n n) n (rowUpto .u8 f n 0) ∧ Below w.heap.size w w1) := ⟨by rw [rowUpto_zero]; exact hown1, hb1⟩
    have HF := Lib.hid hf
    clear hown1 hg1 hb1 hf
    go_loopw [9] (fun i wr => ∃ k : Nat, k ≤ n ∧ i = .int .i64 k ∧ Hid (wr.ownsRow w.heap.size 5 1 (.slice (some ⟨w.heap.size, 0, none⟩) n n) n (rowUpto .u8 f n k) ∧ Below w.heap.size w wr))
      (fun i _ => n - (intOf i).toNat)
    case atStart => exact ⟨0, by omega, rfl, HW1⟩
    case round =>
      obtain ⟨k, hk, rfl, HR⟩ := hrel
      by_cases hlt : k < n
      · obtain ⟨ba, oa, rfl, hca⟩ := HA.out.bytes (by omega)
        obtain ⟨bb, ob, rfl, hcb⟩ := HB.out.bytes (by omega)
        obtain ⟨bc, oc, rfl, hcc'⟩ := HC.out.bytes (by omega)
        have ha1 : wr.cell? ⟨ba, oa + k, none⟩ = some (.int .u8 (A.getD k 0)) := (HR.out.2.cell (World.block_lt_of_cell? _ _ (hca k (by omega)))).trans (hca k (by omega))
        have hb1 : wr.cell? ⟨bb, ob + k, none⟩ = some (.int .u8 (B.getD k 0)) := (HR.out.2.cell (World.block_lt_of_cell? _ _ (hcb k (by omega)))).trans (hcb k (by omega))
        have hc1 : wr.cell? ⟨bc, oc + k, none⟩ = some (.int .u8 (C.getD k 0)) := (HR.out.2.cell (World.block_lt_of_cell? _ _ (hcc' k (by omega)))).trans (hcc' k (by omega))
        have hcell : wr.cell? ⟨w.heap.size, k, none⟩ = some (.int .u8 0) := by
          rw [HR.out.1.cellAt k (by omega)]; exact rowUpto_get _ _ _ _ hlt
        have hfr := HR.out.1.frozenAt k
        have hfk : x3 (A.getD k 0) (B.getD k 0) (C.getD k 0) = f k := by rw [HF.out]
        unfold x3 at hfk
        generalize A.getD k 0 = za at *
        generalize B.getD k 0 = zb at *
        generalize C.getD k 0 = zc at *
        have hst := rowUpto_set .u8 f n k hlt
        have HSt := Lib.hid hst
        have HFk := Lib.hid hfk
        clear hst hca hcb hcc' hfk
        go_wp2_with fail
        have HRd : Hid (wr.drew.ownsRow w.heap.size 5 1 (.slice (some ⟨w.heap.size, 0, none⟩) n n) n (rowUpto .u8 f n k) ∧ Below w.heap.size w wr.drew) := ⟨HR.out.1.drew, HR.out.2.drew⟩
        have ha2 : wr.drew.cell? ⟨ba, oa + k, none⟩ = some (.int .u8 za) := ha1
        have hb2 : wr.drew.cell? ⟨bb, ob + k, none⟩ = some (.int .u8 zb) := hb1
        have hc2 : wr.drew.cell? ⟨bc, oc + k, none⟩ = some (.int .u8 zc) := hc1
        have hcell2 : wr.drew.cell? ⟨w.heap.size, k, none⟩ = some (.int .u8 0) := hcell
        have hfr2 : wr.drew.frozen? ⟨w.heap.size, k, none⟩ = false := hfr
        clear ha1 hb1 hc1 hcell hfr HR
        have hk0 : (0 : Int) ≤ (k : Int) := by omega
        have hka : (k : Int) < (la : Int) := by omega
        have hkb : (k : Int) < (lb : Int) := by omega
        have hkc : (k : Int) < (lc : Int) := by omega
        have hkn : (k : Int) < (n : Int) := by omega
        refine wp_region_still_tail 17 (by kernel_rfl) (by kernel_rfl) ?_
        simp only [List.take_succ_cons, List.take_zero, List.drop_succ_cons, List.drop_zero]
        rw [show ({ heap := wr.heap, tape := wr.tape, drawn := wr.drawn + 1, os := wr.os, output := wr.output } : World) = wr.drew from rfl]
        generalize wr.drew = wz at *
        repeat still_step
        refine wpStill_nil ?_
        go_wp2
        have hs2 := HRd.out.1.stored k (.int .u8 (f k))
        have HN : Hid ((wz.setCell ⟨w.heap.size, k, none⟩ (.int .u8 (f k))).ownsRow w.heap.size 5 1 (.slice (some ⟨w.heap.size, 0, none⟩) n n) n (rowUpto .u8 f n (k + 1)) ∧ Below w.heap.size w (wz.setCell ⟨w.heap.size, k, none⟩ (.int .u8 (f k)))) := by
          refine ⟨?_, HRd.out.2.grown hs2.2 HRd.out.2.size (fun r hr => by cases hr; exact Nat.le_refl _)⟩
          have := hs2.1
          rwa [HSt.out] at this
        clear hs2
        rw [HFk.out]
        go_roundw
        case rel => exact ⟨k + 1, by omega, by go_num, HN⟩
        case measure => simp [intOf]; omega
      · have hkn : k = n := by omega
        subst hkn
        have hX : Sl wr (some ⟨w.heap.size, 0, none⟩) k k ((List.range k).map f) := by
          have h1 := HR.out.1
          rw [rowUpto_all] at h1
          obtain ⟨p', n', c', hv, hs⟩ := sl_owns h1 (fun y hy => by
            rw [List.mem_map] at hy
            obtain ⟨j, hj, rfl⟩ := hy
            rw [List.mem_range] at hj
            have ra : 0 ≤ A.getD j 0 ∧ A.getD j 0 < 256 := by
              have hlen : j < A.length := by rw [HA.out.len]; omega
              simp only [List.getD_eq_getElem?_getD, List.getElem?_eq_getElem hlen, Option.getD_some]
              exact HA.out.rng _ (List.getElem_mem _)
            have rb : 0 ≤ B.getD j 0 ∧ B.getD j 0 < 256 := by
              have hlen : j < B.length := by rw [HB.out.len]; omega
              simp only [List.getD_eq_getElem?_getD, List.getElem?_eq_getElem hlen, Option.getD_some]
              exact HB.out.rng _ (List.getElem_mem _)
            have rc : 0 ≤ C.getD j 0 ∧ C.getD j 0 < 256 := by
              have hlen : j < C.length := by rw [HC.out.len]; omega
              simp only [List.getD_eq_getElem?_getD, List.getElem?_eq_getElem hlen, Option.getD_some]
              exact HC.out.rng _ (List.getElem_mem _)
            have := x3_eq _ _ _ ra rb rc
            rw [HF.out]
            exact ⟨this.1, this.2.1⟩)
          cases hv
          exact hs
        have hX3 : crcU 0#32 (A.take k) ^^^ crcU 0#32 (B.take k) ^^^ crcU 0#32 (C.take k) = crcU 0#32 ((List.range k).map f) := by
          have hlA : (A.take k).length = k := by rw [List.length_take, HA.out.len]; omega
          have hlB : (B.take k).length = k := by rw [List.length_take, HB.out.len]; omega
          have hlC : (C.take k).length = k := by rw [List.length_take, HC.out.len]; omega
          refine crcU_xor3 _ _ _ _ (by rw [hlB, hlA]) (by rw [hlC, hlA]) (by rw [hlA]; simp) (fun j hj => ?_)
          rw [hlA] at hj
          have ra : 0 ≤ A.getD j 0 ∧ A.getD j 0 < 256 := by
            have hlen : j < A.length := by rw [HA.out.len]; omega
            simp only [List.getD_eq_getElem?_getD, List.getElem?_eq_getElem hlen, Option.getD_some]
            exact HA.out.rng _ (List.getElem_mem _)
          have rb : 0 ≤ B.getD j 0 ∧ B.getD j 0 < 256 := by
            have hlen : j < B.length := by rw [HB.out.len]; omega
            simp only [List.getD_eq_getElem?_getD, List.getElem?_eq_getElem hlen, Option.getD_some]
            exact HB.out.rng _ (List.getElem_mem _)
          have rc : 0 ≤ C.getD j 0 ∧ C.getD j 0 < 256 := by
            have hlen : j < C.length := by rw [HC.out.len]; omega
            simp only [List.getD_eq_getElem?_getD, List.getElem?_eq_getElem hlen, Option.getD_some]
            exact HC.out.rng _ (List.getElem_mem _)
          have h3 := (x3_eq _ _ _ ra rb rc).2.2
          have e1 : ((List.range k).map f).getD j 0 = f j := by simp [List.getD, hj]
          have e2 : ∀ l : List Int, (l.take k).getD j 0 = l.getD j 0 := fun l => by simp [List.getD, hj]
          rw [e1, e2, e2, e2, HF.out]
          exact h3
        have hG : LinG L w pa ca (A.take k) pb cb (B.take k) pc cc (C.take k) (some ⟨w.heap.size, 0, none⟩) ((List.range k).map f) k wr :=
          ⟨HH.out.below _ _ HL.out HR.out.2, HR.out.2, (HA.out.take k hna).below HR.out.2, (HB.out.take k hnb).below HR.out.2, (HC.out.take k hnc).below HR.out.2, hX⟩
        generalize (List.range k).map f = X at *
        generalize A.take k = A' at *
        generalize B.take k = B' at *
        generalize C.take k = C' at *
        have hx1 := xor_u32 (crcU 0#32 A') (crcU 0#32 B')
        have hx2 := xor_u32 (crcU 0#32 A' ^^^ crcU 0#32 B') (crcU 0#32 C')
        rw [hX3] at hx2
        obtain ⟨G, hGd⟩ : ∃ G, G = LinG L w pa ca A' pb cb B' pc cc C' (some ⟨w.heap.size, 0, none⟩) X k := ⟨_, rfl⟩
        rw [← hGd] at hG
        have SA : Hid (∀ W, G W → Calls Try.prog 15 #[.slice pa k ca] W fun e W' => e = .returned (.int .u32 ((crcU 0#32 A').toNat : Int)) ∧ G W') := by
          intro W hg; rw [hGd] at hg ⊢
          exact (HH.out.sum _ _ _ _ _ (by omega) hg.a hg.l).mono fun e W' ⟨he, hb⟩ => ⟨he, hg.step HH.out hb⟩
        have SB : Hid (∀ W, G W → Calls Try.prog 15 #[.slice pb k cb] W fun e W' => e = .returned (.int .u32 ((crcU 0#32 B').toNat : Int)) ∧ G W') := by
          intro W hg; rw [hGd] at hg ⊢
          exact (HH.out.sum _ _ _ _ _ (by omega) hg.bb hg.l).mono fun e W' ⟨he, hb⟩ => ⟨he, hg.step HH.out hb⟩
        have SC : Hid (∀ W, G W → Calls Try.prog 15 #[.slice pc k cc] W fun e W' => e = .returned (.int .u32 ((crcU 0#32 C').toNat : Int)) ∧ G W') := by
          intro W hg; rw [hGd] at hg ⊢
          exact (HH.out.sum _ _ _ _ _ (by omega) hg.c hg.l).mono fun e W' ⟨he, hb⟩ => ⟨he, hg.step HH.out hb⟩
        have SX : Hid (∀ W, G W → Calls Try.prog 15 #[.slice (some ⟨w.heap.size, 0, none⟩) k k] W fun e W' => e = .returned (.int .u32 ((crcU 0#32 X).toNat : Int)) ∧ G W') := by
          intro W hg; rw [hGd] at hg ⊢
          exact (HH.out.sum _ _ _ _ _ (by omega) hg.x hg.l).mono fun e W' ⟨he, hb⟩ => ⟨he, hg.step HH.out hb⟩
        have SW : Hid (∀ W, G W → Calls Try.prog 13 #[] W fun e W' => e = .returned (.bool true) ∧ G W') := by
          intro W hg; rw [hGd] at hg ⊢
          exact (works2_any HH.out W hg.l).mono fun e W' ⟨he, hb⟩ => ⟨he, hg.step HH.out hb⟩
        have hGr : G wr.drew := by
          rw [hGd] at hG ⊢
          exact hG.step HH.out (Below.refl _ _).drew
        have HE : Hid (∀ W, G W → Below w.heap.size w W) := by
          intro W hg; rw [hGd] at hg; exact hg.b
        generalize (crcU 0#32 A').toNat = sa at *
        generalize (crcU 0#32 B').toNat = sb at *
        generalize (crcU 0#32 C').toNat = sc at *
        generalize (crcU 0#32 X).toNat = sx at *
        generalize (crcU 0#32 A' ^^^ crcU 0#32 B').toNat = sab at *
        have hk0 : (0 : Int) ≤ (k : Int) := by omega
        have hka : (k : Int) ≤ (ca : Int) := by omega
        have hkb : (k : Int) ≤ (cb : Int) := by omega
        have hkc : (k : Int) ≤ (cc : Int) := by omega
        clear hX3 hX hG hGd HR HA HB HC HF HH HL
        go_wp2_with fail
        go_region_with (first
          | (go_at_call 15; refine (SA.out _ (by assumption)).mono ?_; rintro e w' ⟨rfl, hg1⟩)
          | (go_at_call 15; refine (SB.out _ (by assumption)).mono ?_; rintro e w' ⟨rfl, hg1⟩)
          | (go_at_call 15; refine (SC.out _ (by assumption)).mono ?_; rintro e w' ⟨rfl, hg1⟩)
          | (go_at_call 15; refine (SX.out _ (by assumption)).mono ?_; rintro e w' ⟨rfl, hg1⟩)
          | (go_at_call 13; refine (SW.out _ (by assumption)).mono ?_; rintro e w' ⟨rfl, hg1⟩))
        all_goals
          go_wp2_with fail
          go_ret
          exact ⟨rfl, HE.out _ (by assumption)⟩
end Go.Proofs.Ytdjpoffanfgmmaa
