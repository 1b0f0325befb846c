/- Package crc: shift, Combine; the contracts of the package. -/
import Derived.Test.YtdjpoffanfgmmaaCrcImp2
namespace Go.Proofs.Ytdjpoffanfgmmaa
open Go Go.RowKit

/-- The matrix of t zero bytes. -/
def shfs (t : Nat) : Nat → BitVec 32 := fun i => shf (1#32 <<< i) t

theorem apply_shf (t : Nat) (x : BitVec 32) (w : World) :
    Calls Try.prog 29 #[.agg (rowOf 32 (shfs t)), .int .u32 (x.toNat : Int)] w fun e w' => e = .returned (.int .u32 ((shf x t).toNat : Int)) ∧ Below w.heap.size w w' := by
  have := apply_any (shfs t) x w
  rwa [app_shf t (shfs t) (fun i _ => rfl) x] at this

theorem square_shf (t : Nat) (w : World) :
    Calls Try.prog 30 #[.agg (rowOf 32 (shfs t))] w fun e w' => e = .returned (.agg (rowOf 32 (shfs (t + t)))) ∧ Below w.heap.size w w' := by
  have := square_any (shfs t) w
  rwa [rowOf_congr 32 (fun i => app (shfs t) (shfs t i) 32) (shfs (t + t)) (fun i _ => by rw [app_shf t (shfs t) (fun i _ => rfl)]; exact shf_add _ _ _)] at this

set_option maxHeartbeats 1600000 in
set_option maxRecDepth 100000 in
theorem shift_any (x : BitVec 32) (n : Nat) (w : World) (hn : n ≤ 9223372036854775807) :
    Calls Try.prog 24 #[.int .u32 (x.toNat : Int), .int .i64 n] w fun e w' => e = .returned (.int .u32 ((shf x n).toNat : Int)) ∧ Below w.heap.size w w' := by
  have hz := mat_zero
  have HZ : Hid (Calls Try.prog 28 #[] w fun e w' => e = .returned (.agg (rowOf 32 (shfs 1))) ∧ Below w.heap.size w w') := zeroByte_any w
  have HZr : Hid (∀ w : World, Arr (w.alloc (.cells (rowOf 32 fun _ => 0#32) 50)) w.heap.size 32 50 (fun _ => 0#32)) := fun w => arr_new _ _ _ _
  generalize hzr : (rowOf 32 fun _ => 0#32) = z0 at *
  go_enter Try.func24, Try.ntmps24
  go_wp2_with fail
  refine HZ.out.mono ?_
  rintro e w1 ⟨rfl, hb1⟩
  have HW : Hid (Arr ((w1.alloc (.cells z0 50)).setRow w1.heap.size (rowOf 32 (shfs 1))) w1.heap.size 32 50 (shfs 1) ∧ Below w.heap.size w ((w1.alloc (.cells z0 50)).setRow w1.heap.size (rowOf 32 (shfs 1))) ∧ w.heap.size ≤ w1.heap.size) :=
    ⟨(HZr.out w1).row _, below_row (hb1.alloc hb1.size _) _ _ hb1.size, hb1.size⟩
  clear HZ hb1
  go_wp2_with (refine mat_store (HZr.out _) rfl rfl rfl rfl rfl ?_)
  go_loopw [0, 1, 5] (fun vx vn vm wr => ∃ (N t : Nat) (y : BitVec 32) (g : Nat), N ≤ 9223372036854775807 ∧ vn = .int .i64 N ∧ vx = .int .u32 (y.toNat : Int) ∧ vm = .pointer (some ⟨g, 0, none⟩) ∧ Hid (Arr wr g 32 50 (shfs t) ∧ Below w.heap.size w wr ∧ w.heap.size ≤ g ∧ shf y (N * t) = shf x n))
    (fun _ vn _ _ => (intOf vn).toNat)
  case atStart => exact ⟨n, 1, x, _, hn, rfl, rfl, rfl, HW.out.1, HW.out.2.1, HW.out.2.2, by rw [Nat.mul_one]⟩
  case round =>
    clear HW
    obtain ⟨N, t, y, g, hN, rfl, rfl, rfl, HR⟩ := hrel
    by_cases hpos : 0 < N
    · obtain ⟨N2, hN2⟩ : ∃ N2, N2 = N / 2 := ⟨_, rfl⟩
      have hdiv : (N : Int) / 2 = (N2 : Int) := by omega
      have hN2lt : N2 < N := by omega
      by_cases hodd : N % 2 = 1
      · have hpar : (N : Int) % 2 = 1 := by omega
        have hnew : shf (shf y t) (N2 * (t + t)) = shf x n := by
          rw [← HR.out.2.2.2, shf_add]
          congr 1
          have h2 : N = 2 * N2 + 1 := by omega
          rw [Nat.mul_add]
          have h3 : N * t = (2 * N2 + 1) * t := by rw [← h2]
          rw [h3, Nat.add_mul, Nat.one_mul, Nat.mul_assoc, Nat.two_mul]
          omega
        have HNew := Lib.hid hnew
        have HAp := Lib.hid (apply_shf t y wr)
        clear hnew hN2
        · go_wp2_with (refine mat_load HR.out.1 rfl rfl rfl ?_)
          refine HAp.out.mono ?_
          rintro e w2 ⟨rfl, hb2⟩
          have HQ := Lib.hid (And.intro (HR.out.1.below hb2) (And.intro (HR.out.2.1.trans (hb2.mono HR.out.2.1.size)) HR.out.2.2.1))
          clear hb2
          clear HR HAp
          go_wp2_with (refine mat_load HQ.out.1 rfl rfl rfl ?_)
          refine (square_shf t _).mono ?_
          rintro e w3 ⟨rfl, hb3⟩
          have HS := Lib.hid (And.intro (HQ.out.1.below hb3) (And.intro (HQ.out.2.1.trans (hb3.mono HQ.out.2.1.size)) HQ.out.2.2))
          clear hb3 HQ
          have HT : Hid (Arr (w3.setRow g (rowOf 32 (shfs (t + t)))) g 32 50 (shfs (t + t)) ∧ Below w.heap.size w (w3.setRow g (rowOf 32 (shfs (t + t)))) ∧ w.heap.size ≤ g) :=
            ⟨HS.out.1.row _, below_row HS.out.2.1 _ _ HS.out.2.2, HS.out.2.2⟩
          have HZ3 : Hid (Arr ((w3.setRow g (rowOf 32 (shfs (t + t)))).alloc (.cells z0 50)) w3.heap.size 32 50 (fun _ => 0#32)) := by
            have := HZr.out (w3.setRow g (rowOf 32 (shfs (t + t))))
            rw [setRow_size] at this
            exact ⟨this.heap⟩
          go_wp2_with (first
            | (refine mat_store HS.out.1 rfl rfl rfl rfl rfl ?_)
            | (refine mat_load HT.out.1 rfl rfl rfl ?_)
            | (refine mat_store HZ3.out rfl rfl rfl rfl rfl ?_))
          have HU : Hid (Arr (((w3.setRow g (rowOf 32 (shfs (t + t)))).alloc (.cells z0 50)).setRow w3.heap.size (rowOf 32 (shfs (t + t)))) w3.heap.size 32 50 (shfs (t + t))
            ∧ Below w.heap.size w (((w3.setRow g (rowOf 32 (shfs (t + t)))).alloc (.cells z0 50)).setRow w3.heap.size (rowOf 32 (shfs (t + t))))
            ∧ w.heap.size ≤ w3.heap.size) :=
            ⟨HZ3.out.row _, below_row (HT.out.2.1.alloc HT.out.2.1.size _) _ _ HS.out.2.1.size, HS.out.2.1.size⟩
          go_roundw
          case rel => exact ⟨N2, t + t, shf y t, _, by omega, by go_num, rfl, rfl, HU.out.1, HU.out.2.1, HU.out.2.2, HNew.out⟩
          case measure => simp [intOf]; omega
      · have hpar : (N : Int) % 2 = 0 := by omega
        have hnew : shf y (N2 * (t + t)) = shf x n := by
          rw [← HR.out.2.2.2]
          congr 1
          have h2 : N = 2 * N2 := by omega
          have h3 : N * t = (2 * N2) * t := by rw [← h2]
          rw [h3, Nat.mul_add, Nat.mul_assoc, Nat.two_mul]
        have HNew := Lib.hid hnew
        have HAp := Lib.hid (Nat.le_refl 0)
        clear hnew hN2
        · have HQ := Lib.hid (And.intro HR.out.1 (And.intro HR.out.2.1 HR.out.2.2.1))
          clear HR HAp
          go_wp2_with (refine mat_load HQ.out.1 rfl rfl rfl ?_)
          refine (square_shf t _).mono ?_
          rintro e w3 ⟨rfl, hb3⟩
          have HS := Lib.hid (And.intro (HQ.out.1.below hb3) (And.intro (HQ.out.2.1.trans (hb3.mono HQ.out.2.1.size)) HQ.out.2.2))
          clear hb3 HQ
          have HT : Hid (Arr (w3.setRow g (rowOf 32 (shfs (t + t)))) g 32 50 (shfs (t + t)) ∧ Below w.heap.size w (w3.setRow g (rowOf 32 (shfs (t + t)))) ∧ w.heap.size ≤ g) :=
            ⟨HS.out.1.row _, below_row HS.out.2.1 _ _ HS.out.2.2, HS.out.2.2⟩
          have HZ3 : Hid (Arr ((w3.setRow g (rowOf 32 (shfs (t + t)))).alloc (.cells z0 50)) w3.heap.size 32 50 (fun _ => 0#32)) := by
            have := HZr.out (w3.setRow g (rowOf 32 (shfs (t + t))))
            rw [setRow_size] at this
            exact ⟨this.heap⟩
          go_wp2_with (first
            | (refine mat_store HS.out.1 rfl rfl rfl rfl rfl ?_)
            | (refine mat_load HT.out.1 rfl rfl rfl ?_)
            | (refine mat_store HZ3.out rfl rfl rfl rfl rfl ?_))
          have HU : Hid (Arr (((w3.setRow g (rowOf 32 (shfs (t + t)))).alloc (.cells z0 50)).setRow w3.heap.size (rowOf 32 (shfs (t + t)))) w3.heap.size 32 50 (shfs (t + t))
            ∧ Below w.heap.size w (((w3.setRow g (rowOf 32 (shfs (t + t)))).alloc (.cells z0 50)).setRow w3.heap.size (rowOf 32 (shfs (t + t))))
            ∧ w.heap.size ≤ w3.heap.size) :=
            ⟨HZ3.out.row _, below_row (HT.out.2.1.alloc HT.out.2.1.size _) _ _ HS.out.2.1.size, HS.out.2.1.size⟩
          go_roundw
          case rel => exact ⟨N2, t + t, y, _, by omega, by go_num, rfl, rfl, HU.out.1, HU.out.2.1, HU.out.2.2, HNew.out⟩
          case measure => simp [intOf]; omega
    · have hz0 : N = 0 := by omega
      subst hz0
      have HF : Hid (y = shf x n) := by
        have := HR.out.2.2.2
        rwa [Nat.zero_mul, shf_none] at this
      rw [HF.out, show ((0 : Nat) : Int) = 0 from rfl]
      go_wp2_with fail
      go_ret
      exact ⟨rfl, HR.out.2.1⟩

theorem combine_neg (a b : BitVec 32) (n : Int) (w : World) (hn : n < 0) :
    Calls Try.prog 19 #[.int .u32 (a.toNat : Int), .int .u32 (b.toNat : Int), .int .i64 n] w fun e w' => e = .returned (.tuple #[.int .u32 0, .int .i64 2]) ∧ Below w.heap.size w w' := by
  go_enter Try.func19, Try.ntmps19
  go_wp2_with fail
  go_ret2
  exact ⟨rfl, Below.refl _ _⟩

theorem combine_any (a b : BitVec 32) (n : Nat) (w : World) (hn : n ≤ 9223372036854775807) :
    Calls Try.prog 19 #[.int .u32 (a.toNat : Int), .int .u32 (b.toNat : Int), .int .i64 n] w fun e w' => e = .returned (.tuple #[.int .u32 ((shf a n ^^^ b).toNat : Int), .int .i64 0]) ∧ Below w.heap.size w w' := by
  have HS := Lib.hid (shift_any a n w hn)
  have hx := xor_u32 (shf a n) b
  go_enter Try.func19, Try.ntmps19
  go_wp2_with fail
  refine HS.out.mono ?_
  rintro e w1 ⟨rfl, hb⟩
  go_wp2_with fail
  go_ret2
  exact ⟨rfl, hb⟩

/-- The landed package keeps its contracts, in every world. -/
theorem crc_ok : CrcOk fun _ => True where
  below := fun _ _ _ _ => trivial
  sum := fun p len cap xs w hl hS _ => sum_any p len cap xs w hl hS
  upd := fun s p len cap xs w hl hS _ => update_any s p len cap xs w hl hS
  valid := fun s p len cap xs w hl hS _ => valid_any s p len cap xs w hl hS
  neg := fun a b n w hn _ => combine_neg a b n w hn
  comb := fun a b n w hn _ => combine_any a b n w hn
  table := fun w _ => table_any w
end Go.Proofs.Ytdjpoffanfgmmaa
