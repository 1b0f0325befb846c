/- The document's own Shift and Combine (drumlinref02). -/
import Derived.Test.YtdjpoffanfgmmaaCrcRef2
import Derived.OwnWalk
import Derived.Laws.OwnMore
import Derived.Deep.QuietTactic
import Derived.BigQuiet
namespace Go.Proofs.Ytdjpoffanfgmmaa
open Go Go.RowKit

theorem Try.info32u : (Try.prog.info? 23).map (fun i => (i.zero, i.size, i.bytes)) = some (some (.int .u32 0), 1, 4) := by kernel_rfl

/-- The first k columns are laid, the others are 0. -/
def colsUpto (m : Nat → BitVec 32) (k : Nat) : List Value := (List.range 32).map fun j => Value.int .u32 (if j < k then ((m j).toNat : Int) else 0)

theorem colsUpto_zero (m : Nat → BitVec 32) : colsUpto m 0 = (madeCells (Value.int .u32 0).cells (32 * 1)).toList := by
  rw [show (Value.int .u32 0).cells = #[Value.int .u32 0] from rfl, toList_madeCells_one]
  unfold colsUpto
  simp only [Nat.not_lt_zero, if_false]
  rfl

theorem colsUpto_set (m : Nat → BitVec 32) (k : Nat) (hk : k < 32) : (colsUpto m k).set k (Value.int .u32 ((m k).toNat : Int)) = colsUpto m (k + 1) := by
  unfold colsUpto
  apply List.ext_getElem?
  intro j
  rw [List.getElem?_set]
  simp only [List.length_map, List.length_range, List.getElem?_map]
  by_cases hj : j < 32
  · rw [List.getElem?_range hj]
    by_cases hjk : k = j
    · subst hjk; simp [hk]
    · rw [if_neg hjk]
      simp only [Option.map_some]
      congr 2
      by_cases h1 : j < k
      · rw [if_pos h1, if_pos (by omega)]
      · rw [if_neg h1, if_neg (by omega)]
  · have e1 : (List.range 32)[j]? = none := by simp; omega
    rw [e1, if_neg (by omega)]
    rfl

theorem colsUpto_all {w : World} {base : Nat} {e : TypeId} {g : Nat} {m : Nat → BitVec 32} (h : w.ownsRow base e 1 (.slice (some ⟨g, 0, none⟩) 32 32) 32 (colsUpto m 32)) : Cols w g m := by
  intro i hi
  rw [h.cellAt i (by omega)]
  unfold colsUpto
  simp [hi]

set_option maxHeartbeats 1600000 in
theorem rShift_any (x : BitVec 32) (n : Nat) (w : World) (hn : n ≤ 9223372036854775807) :
    Calls Try.prog 25 #[.int .u32 (x.toNat : Int), .int .i64 n] w fun e w' => e = .returned (.int .u32 ((shf x n).toNat : Int)) ∧ Below w.heap.size w w' := by
  obtain ⟨i0, hi, hi0, hi1, hi2⟩ := info_parts Try.info32u
  go_enter Try.func25, Try.ntmps25
  go_wp2_with (at_make; refine wpList_make_full _ rfl _ _ 52 rfl w.heap.size 23 i0 (.int .u32 0) 1 Try.underlying52 hi hi0 hi1 _ _ _ _ 32 rfl rfl rfl rfl (by omega) (by decide) (Nat.le_refl _) ?_; intro w1 hown1 hg1)
  have hb1 : Below w.heap.size w w1 := ⟨hg1.os, hg1.tape, hg1.output, hg1.size, fun k hk => hg1.block k hk (by simp)⟩
  have HW1 : Hid (w1.ownsRow w.heap.size 23 1 (.slice (some ⟨w.heap.size, 0, none⟩) 32 32) 32 (colsUpto (fun i => shf (1#32 <<< i) 1) 0) ∧ Below w.heap.size w w1) := ⟨by rw [colsUpto_zero]; exact hown1, hb1⟩
  clear hown1 hg1 hb1
  go_loopw [6] (fun i wr => ∃ k : Nat, k ≤ 32 ∧ i = .int .i64 k ∧ Hid (wr.ownsRow w.heap.size 23 1 (.slice (some ⟨w.heap.size, 0, none⟩) 32 32) 32 (colsUpto (fun i => shf (1#32 <<< i) 1) k) ∧ Below w.heap.size w wr))
    (fun i _ => 32 - (intOf i).toNat)
  case atStart => exact ⟨0, by omega, rfl, HW1⟩
  case round =>
    obtain ⟨k, hk, rfl, HR⟩ := hrel
    by_cases hlt : k < 32
    · have hcell : wr.cell? ⟨w.heap.size, k, none⟩ = some (.int .u32 0) := by
        rw [HR.out.1.cellAt k (by omega)]; simp [colsUpto, hlt]
      have hfr := HR.out.1.frozenAt k
      have hst := colsUpto_set (fun i => shf (1#32 <<< i) 1) k hlt
      have HSt := Lib.hid hst
      have h2k : (2 : Int) ^ k % 4294967296 = ((1#32 <<< k).toNat : Int) := by
        rw [BitVec.toNat_shiftLeft, Nat.shiftLeft_eq]
        simp
      have hfd : ∀ w, Calls Try.prog 22 #[.int .u32 ((2 : Int) ^ k % 4294967296), .int .u8 0] w fun e w' => e = .returned (.int .u32 ((shf (1#32 <<< k) 1).toNat : Int)) ∧ w = w' := by
        intro w
        rw [h2k]
        have := rFeed_any (1#32 <<< k) 0 w (by omega) (by omega)
        rw [feed_zero] at this
        exact this
      have HFd := Lib.hid hfd
      clear hst h2k hfd
      go_wp2_with (go_at_call 22; refine (HFd.out _).mono ?_; rintro e w' ⟨rfl, rfl⟩)
      have hs2 := HR.out.1.stored k (.int .u32 ((shf (1#32 <<< k) 1).toNat : Int))
      have HN : Hid ((wr.setCell ⟨w.heap.size, k, none⟩ (.int .u32 ((shf (1#32 <<< k) 1).toNat : Int))).ownsRow w.heap.size 23 1 (.slice (some ⟨w.heap.size, 0, none⟩) 32 32) 32 (colsUpto (fun i => shf (1#32 <<< i) 1) (k + 1)) ∧ Below w.heap.size w (wr.setCell ⟨w.heap.size, k, none⟩ (.int .u32 ((shf (1#32 <<< k) 1).toNat : Int)))) := by
        refine ⟨?_, HR.out.2.grown hs2.2 HR.out.2.size (fun r hr => by cases hr; exact Nat.le_refl _)⟩
        have := hs2.1
        rwa [HSt.out] at this
      clear hs2
      go_roundw
      case rel => exact ⟨k + 1, by omega, by go_num, HN⟩
      case measure => simp [intOf]; omega
    · have hk32 : k = 32 := by omega
      subst hk32
      rw [show ((32 : Nat) : Int) = 32 from rfl]
      have HC : Hid (Cols wr w.heap.size (fun i => shf (1#32 <<< i) 1) ∧ Below w.heap.size w wr) := ⟨colsUpto_all HR.out.1, HR.out.2⟩
      have HLt := Lib.hid ((HR.out.1.lt w.heap.size rfl).2)
      clear HR
      go_wp2
      go_loopw [0, 1, 5] (fun vx vn vm wr => ∃ (N t : Nat) (y : BitVec 32) (g : Nat), N ≤ 9223372036854775807 ∧ vn = .int .i64 N ∧ vx = .int .u32 (y.toNat : Int) ∧ vm = .slice (some ⟨g, 0, none⟩) 32 32 ∧ Hid (Cols wr g (fun i => shf (1#32 <<< i) t) ∧ Below w.heap.size w wr ∧ shf y (N * t) = shf x n))
        (fun _ vn _ _ => (intOf vn).toNat)
      case atStart => exact ⟨n, 1, x, w.heap.size, hn, rfl, rfl, rfl, HC.out.1, HC.out.2, by rw [Nat.mul_one]⟩
      case round =>
        clear HC HLt
        obtain ⟨N, t, y, g, hN, rfl, rfl, rfl, HR⟩ := hrel
        by_cases hpos : 0 < N
        by_cases hodd : N % 2 = 1
        · have hpar : (N : Int) % 2 = 1 := by omega
          obtain ⟨N2, hN2⟩ : ∃ N2, N2 = N / 2 := ⟨_, rfl⟩
          have hdiv : (N : Int) / 2 = (N2 : Int) := by omega
          have hN2lt : N2 < N := by omega
          have hnew : shf (shf y t) (N2 * (t + t)) = shf x n := by
            rw [← HR.out.2.2, shf_add]
            congr 1
            have h2 : N = 2 * N2 + 1 := by omega
            rw [Nat.mul_add]
            have h3 : N * t = (2 * N2 + 1) * t := by rw [← h2]
            rw [h3, Nat.add_mul, Nat.one_mul, Nat.mul_assoc, Nat.two_mul]
            omega
          have HNew := Lib.hid hnew
          have HAp : Hid (∀ w : World, Cols w g (fun i => shf (1#32 <<< i) t) → ∀ z : BitVec 32, Calls Try.prog 31 #[.slice (some ⟨g, 0, none⟩) 32 32, .int .u32 (z.toNat : Int)] w fun e w' => e = .returned (.int .u32 ((shf z t).toNat : Int)) ∧ w = w') := by
            intro w h z
            have := rapply_any g (fun i => shf (1#32 <<< i) t) z w h
            rwa [app_shf t (fun i => shf (1#32 <<< i) t) (fun i _ => rfl) z] at this
          clear hnew hN2
          go_wp2_with (first
            | (go_at_call 31; refine (HAp.out _ HR.out.1 _).mono ?_; rintro e w' ⟨rfl, rfl⟩)
            | (at_make; refine wpList_make_full _ rfl _ _ 52 rfl wr.heap.size 23 i0 (.int .u32 0) 1 Try.underlying52 hi hi0 hi1 _ _ _ _ 32 rfl rfl rfl rfl (by omega) (by decide) (Nat.le_refl _) ?_; intro w2 hown2 hg2))
          have HB2 : Hid (Below wr.heap.size wr w2) := ⟨hg2.os, hg2.tape, hg2.output, hg2.size, fun k hk => hg2.block k hk (by simp)⟩
          obtain ⟨w5, rfl⟩ : ∃ w5, w5 = wr := ⟨_, rfl⟩
          have HW2 : Hid (w2.ownsRow w5.heap.size 23 1 (.slice (some ⟨w5.heap.size, 0, none⟩) 32 32) 32 (colsUpto (fun i => shf (1#32 <<< i) (t + t)) 0) ∧ Below w5.heap.size w5 w2) := ⟨by rw [colsUpto_zero]; exact hown2, HB2.out⟩
          clear hown2 hg2
          go_loopw [8] (fun i wr => ∃ k : Nat, k ≤ 32 ∧ i = .int .i64 k ∧ Hid (wr.ownsRow w5.heap.size 23 1 (.slice (some ⟨w5.heap.size, 0, none⟩) 32 32) 32 (colsUpto (fun i => shf (1#32 <<< i) (t + t)) k) ∧ Below w5.heap.size w5 wr))
            (fun i _ => 32 - (intOf i).toNat)
          case atStart => exact ⟨0, by omega, rfl, HW2⟩
          case round =>
            obtain ⟨k, hk, rfl, HQ⟩ := hrel
            by_cases hlt : k < 32
            · have hc1 := HR.out.1 k hlt
              have hcm : wr.cell? ⟨g, k, none⟩ = some (.int .u32 ((shf (1#32 <<< k) t).toNat : Int)) := (HQ.out.2.cell (World.block_lt_of_cell? _ _ hc1)).trans hc1
              have HCw : Hid (Cols wr g (fun i => shf (1#32 <<< i) t)) := fun j hj => (HQ.out.2.cell (World.block_lt_of_cell? _ _ (HR.out.1 j hj))).trans (HR.out.1 j hj)
              have hcell : wr.cell? ⟨w5.heap.size, k, none⟩ = some (.int .u32 0) := by
                rw [HQ.out.1.cellAt k (by omega)]; simp [colsUpto, hlt]
              have hfr := HQ.out.1.frozenAt k
              have HSt := Lib.hid (colsUpto_set (fun i => shf (1#32 <<< i) (t + t)) k hlt)
              have HAk := HAp.out wr HCw.out (shf (1#32 <<< k) t)
              rw [shf_add] at HAk
              have HAK := Lib.hid HAk
              clear hc1 HAk
              go_wp2_with (go_at_call 31; refine HAK.out.mono ?_; rintro e w' ⟨rfl, rfl⟩)
              have hs2 := HQ.out.1.stored k (.int .u32 ((shf (1#32 <<< k) (t + t)).toNat : Int))
              have HN : Hid ((wr.setCell ⟨w5.heap.size, k, none⟩ (.int .u32 ((shf (1#32 <<< k) (t + t)).toNat : Int))).ownsRow w5.heap.size 23 1 (.slice (some ⟨w5.heap.size, 0, none⟩) 32 32) 32 (colsUpto (fun i => shf (1#32 <<< i) (t + t)) (k + 1)) ∧ Below w5.heap.size w5 (wr.setCell ⟨w5.heap.size, k, none⟩ (.int .u32 ((shf (1#32 <<< k) (t + t)).toNat : Int)))) := by
                refine ⟨?_, HQ.out.2.grown hs2.2 HQ.out.2.size (fun r hr => by cases hr; exact Nat.le_refl _)⟩
                have := hs2.1
                rwa [HSt.out] at this
              clear hs2
              go_roundw
              case rel => exact ⟨k + 1, by omega, by go_num, HN⟩
              case measure => simp [intOf]; omega
            · have hk32 : k = 32 := by omega
              subst hk32
              have HD : Hid (Cols wr w5.heap.size (fun i => shf (1#32 <<< i) (t + t)) ∧ Below w.heap.size w wr) := ⟨colsUpto_all HQ.out.1, HR.out.2.1.trans (HQ.out.2.mono HR.out.2.1.size)⟩
              clear HQ
              go_wp2
              go_roundw
              case rel => exact ⟨N2, t + t, shf y t, w5.heap.size, by omega, by go_num, rfl, rfl, HD.out.1, HD.out.2, HNew.out⟩
              case measure => simp [intOf]; omega
        · have hpar : (N : Int) % 2 = 0 := by omega
          obtain ⟨N2, hN2⟩ : ∃ N2, N2 = N / 2 := ⟨_, rfl⟩
          have hdiv : (N : Int) / 2 = (N2 : Int) := by omega
          have hN2lt : N2 < N := by omega
          have hnew : shf (y) (N2 * (t + t)) = shf x n := by
            rw [← HR.out.2.2]
            congr 1
            have h2 : N = 2 * N2 := by omega
            have h3 : N * t = (2 * N2) * t := by rw [← h2]
            rw [h3, Nat.mul_add, Nat.mul_assoc, Nat.two_mul]
          have HNew := Lib.hid hnew
          have HAp : Hid (∀ w : World, Cols w g (fun i => shf (1#32 <<< i) t) → ∀ z : BitVec 32, Calls Try.prog 31 #[.slice (some ⟨g, 0, none⟩) 32 32, .int .u32 (z.toNat : Int)] w fun e w' => e = .returned (.int .u32 ((shf z t).toNat : Int)) ∧ w = w') := by
            intro w h z
            have := rapply_any g (fun i => shf (1#32 <<< i) t) z w h
            rwa [app_shf t (fun i => shf (1#32 <<< i) t) (fun i _ => rfl) z] at this
          clear hnew hN2
          go_wp2_with (first
            | (go_at_call 31; refine (HAp.out _ HR.out.1 _).mono ?_; rintro e w' ⟨rfl, rfl⟩)
            | (at_make; refine wpList_make_full _ rfl _ _ 52 rfl wr.heap.size 23 i0 (.int .u32 0) 1 Try.underlying52 hi hi0 hi1 _ _ _ _ 32 rfl rfl rfl rfl (by omega) (by decide) (Nat.le_refl _) ?_; intro w2 hown2 hg2))
          have HB2 : Hid (Below wr.heap.size wr w2) := ⟨hg2.os, hg2.tape, hg2.output, hg2.size, fun k hk => hg2.block k hk (by simp)⟩
          obtain ⟨w5, rfl⟩ : ∃ w5, w5 = wr := ⟨_, rfl⟩
          have HW2 : Hid (w2.ownsRow w5.heap.size 23 1 (.slice (some ⟨w5.heap.size, 0, none⟩) 32 32) 32 (colsUpto (fun i => shf (1#32 <<< i) (t + t)) 0) ∧ Below w5.heap.size w5 w2) := ⟨by rw [colsUpto_zero]; exact hown2, HB2.out⟩
          clear hown2 hg2
          go_loopw [8] (fun i wr => ∃ k : Nat, k ≤ 32 ∧ i = .int .i64 k ∧ Hid (wr.ownsRow w5.heap.size 23 1 (.slice (some ⟨w5.heap.size, 0, none⟩) 32 32) 32 (colsUpto (fun i => shf (1#32 <<< i) (t + t)) k) ∧ Below w5.heap.size w5 wr))
            (fun i _ => 32 - (intOf i).toNat)
          case atStart => exact ⟨0, by omega, rfl, HW2⟩
          case round =>
            obtain ⟨k, hk, rfl, HQ⟩ := hrel
            by_cases hlt : k < 32
            · have hc1 := HR.out.1 k hlt
              have hcm : wr.cell? ⟨g, k, none⟩ = some (.int .u32 ((shf (1#32 <<< k) t).toNat : Int)) := (HQ.out.2.cell (World.block_lt_of_cell? _ _ hc1)).trans hc1
              have HCw : Hid (Cols wr g (fun i => shf (1#32 <<< i) t)) := fun j hj => (HQ.out.2.cell (World.block_lt_of_cell? _ _ (HR.out.1 j hj))).trans (HR.out.1 j hj)
              have hcell : wr.cell? ⟨w5.heap.size, k, none⟩ = some (.int .u32 0) := by
                rw [HQ.out.1.cellAt k (by omega)]; simp [colsUpto, hlt]
              have hfr := HQ.out.1.frozenAt k
              have HSt := Lib.hid (colsUpto_set (fun i => shf (1#32 <<< i) (t + t)) k hlt)
              have HAk := HAp.out wr HCw.out (shf (1#32 <<< k) t)
              rw [shf_add] at HAk
              have HAK := Lib.hid HAk
              clear hc1 HAk
              go_wp2_with (go_at_call 31; refine HAK.out.mono ?_; rintro e w' ⟨rfl, rfl⟩)
              have hs2 := HQ.out.1.stored k (.int .u32 ((shf (1#32 <<< k) (t + t)).toNat : Int))
              have HN : Hid ((wr.setCell ⟨w5.heap.size, k, none⟩ (.int .u32 ((shf (1#32 <<< k) (t + t)).toNat : Int))).ownsRow w5.heap.size 23 1 (.slice (some ⟨w5.heap.size, 0, none⟩) 32 32) 32 (colsUpto (fun i => shf (1#32 <<< i) (t + t)) (k + 1)) ∧ Below w5.heap.size w5 (wr.setCell ⟨w5.heap.size, k, none⟩ (.int .u32 ((shf (1#32 <<< k) (t + t)).toNat : Int)))) := by
                refine ⟨?_, HQ.out.2.grown hs2.2 HQ.out.2.size (fun r hr => by cases hr; exact Nat.le_refl _)⟩
                have := hs2.1
                rwa [HSt.out] at this
              clear hs2
              go_roundw
              case rel => exact ⟨k + 1, by omega, by go_num, HN⟩
              case measure => simp [intOf]; omega
            · have hk32 : k = 32 := by omega
              subst hk32
              have HD : Hid (Cols wr w5.heap.size (fun i => shf (1#32 <<< i) (t + t)) ∧ Below w.heap.size w wr) := ⟨colsUpto_all HQ.out.1, HR.out.2.1.trans (HQ.out.2.mono HR.out.2.1.size)⟩
              clear HQ
              go_wp2
              go_roundw
              case rel => exact ⟨N2, t + t, y, w5.heap.size, by omega, by go_num, rfl, rfl, HD.out.1, HD.out.2, HNew.out⟩
              case measure => simp [intOf]; omega
        · have hz : N = 0 := by omega
          subst hz
          have HF : Hid (y = shf x n) := by
            have := HR.out.2.2
            rwa [Nat.zero_mul, shf_none] at this
          rw [HF.out]
          go_wp2
          go_ret
          exact ⟨rfl, HR.out.2.1⟩

/-- What Combine returns: of a number below 0 the error. -/
theorem rCombine_neg (a b : BitVec 32) (n : Int) (w : World) (hn : n < 0) :
    Calls Try.prog 20 #[.int .u32 (a.toNat : Int), .int .u32 (b.toNat : Int), .int .i64 n] w fun e w' => e = .returned (.tuple #[.int .u32 0, .int .i64 2]) ∧ w = w' := by
  go_enter Try.func20, Try.ntmps20
  go_wp2
  go_ret2
  exact ⟨rfl, rfl⟩

theorem rCombine_any (a b : BitVec 32) (n : Nat) (w : World) (hn : n ≤ 9223372036854775807) :
    Calls Try.prog 20 #[.int .u32 (a.toNat : Int), .int .u32 (b.toNat : Int), .int .i64 n] w fun e w' => e = .returned (.tuple #[.int .u32 ((shf a n ^^^ b).toNat : Int), .int .i64 0]) ∧ Below w.heap.size w w' := by
  have HS := Lib.hid (rShift_any a n w hn)
  have hx := xor_u32 (shf a n) b
  go_enter Try.func20, Try.ntmps20
  go_wp2_with fail
  refine HS.out.mono ?_
  rintro e w1 ⟨rfl, hb⟩
  go_wp2_with fail
  go_ret2
  exact ⟨rfl, hb⟩
end Go.Proofs.Ytdjpoffanfgmmaa
