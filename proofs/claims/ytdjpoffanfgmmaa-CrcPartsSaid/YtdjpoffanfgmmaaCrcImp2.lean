/- Package crc: the matrices; shift, Combine. -/
import Derived.Test.YtdjpoffanfgmmaaCrcImp1
namespace Go.Proofs.Ytdjpoffanfgmmaa
open Go Go.RowKit

theorem mat_info : (Try.prog.info? 50).map (fun i => (i.zero, i.size)) = some (some (.agg (Array.replicate 32 (.int .u32 0))), 32) := by kernel_rfl

/-- An element of a matrix that is held by value. -/
theorem run_index_row (cs : Array Value) (k : Nat) (v : Value) (hk : k < 32) (hc : cs[k]? = some v) (w : World) :
    Sem.run Try.prog (Instr.index 50 (.agg cs) (.int .i64 k)) w = .ok v w := by
  have hs : (Try.prog.info? 23).map (·.size) = some 1 := by kernel_rfl
  cases hq : Try.prog.info? 23 with
  | none => simp [hq] at hs
  | some i =>
    have hs1 : i.size = 1 := by simpa [hq] using hs
    simp [Instr.index, run_underlying Try.underlying50, asIntOf, part, isAgg, run_underlying Try.underlying23, sizeOf, typeInfo, hq, hs1, hc]
    intro h
    omega

set_option maxHeartbeats 1600000 in
set_option maxRecDepth 100000 in
theorem apply_any (m : Nat → BitVec 32) (x : BitVec 32) (w : World) :
    Calls Try.prog 29 #[.agg (rowOf 32 m), .int .u32 (x.toNat : Int)] w fun e w' => e = .returned (.int .u32 ((app m x 32).toNat : Int)) ∧ Below w.heap.size w w' := by
  obtain ⟨hz, hzi⟩ := zero_of_info mat_info
  have HG := Lib.hid (rowOf_get 32 m)
  have hrs := rowOf_size 32 m
  have HA := Lib.hid (arr_new w 32 50 m)
  have HB : Hid (Below w.heap.size w (w.alloc (.cells (rowOf 32 m) 50))) := (Below.refl w.heap.size w).alloc (Nat.le_refl _) _
  go_enter Try.func29, Try.ntmps29
  go_wp2_with (refine wpList_load_row rfl 50 _ rfl w.heap.size rfl _ _ _ _ HA.out.heap Try.underlying50 rfl (by rw [hzi, rowOf_size]) ?_)
  obtain ⟨w2, hw2⟩ : ∃ w2, w2 = w.alloc (.cells (rowOf 32 m) 50) := ⟨_, rfl⟩
  rw [← hw2] at HB ⊢
  clear HA hw2
  generalize rowOf 32 m = cs at *
  go_loop [5, 9] (fun v i => ∃ k : Nat, k ≤ 32 ∧ i = .int .i64 k ∧ v = .int .u32 ((app m x k).toNat : Int)) (fun _ i => 32 - (intOf i).toNat)
  case atStart => exact ⟨0, by omega, rfl, rfl⟩
  case round =>
    obtain ⟨k, hk, rfl, rfl⟩ := hrel
    by_cases hlt : k < 32
    · have hcell := run_index_row cs k _ hlt (HG.out k hlt)
      have hb := and1_u32 (x >>> k)
      rw [← shr_u32, bit_shr] at hb
      cases hx : x.getLsbD k with
      | true =>
        have hn : app m x (k + 1) = app m x k ^^^ m k := by simp only [app]; rw [hx, if_pos rfl]
        have hxx := xor_u32 (app m x k) (m k)
        rw [← hn] at hxx
        rw [hx, if_pos rfl] at hb
        have HX := Lib.hid hxx
        clear hx hn hxx
        go_wp2_with fail
        go_round
        case rel => exact ⟨k + 1, by omega, by go_num, congrArg (Value.int .u32) HX.out⟩
        case measure => simp [intOf]; omega
      | false =>
        have hn : app m x (k + 1) = app m x k := by simp only [app]; rw [hx, if_neg (by decide), BitVec.xor_zero]
        rw [hx, if_neg (by decide)] at hb
        have HN := Lib.hid hn
        clear hx hn
        go_wp2_with fail
        go_round
        case rel => exact ⟨k + 1, by omega, by go_num, by rw [HN.out]⟩
        case measure => simp [intOf]; omega
    · have hk32 : k = 32 := by omega
      subst hk32
      go_wp2_with fail
      go_ret
      exact ⟨rfl, HB.out⟩

/-- What square has laid up to its place k. -/
def upto (h : Nat → BitVec 32) (k : Nat) : Nat → BitVec 32 := fun i => if i < k then h i else 0#32

theorem upto_turned (h : Nat → BitVec 32) (k : Nat) : turned (upto h k) k (h k) = upto h (k + 1) := by
  funext i
  unfold turned upto
  by_cases e : i = k
  · subst e; simp
  · by_cases l : i < k
    · rw [if_neg e, if_pos l, if_pos (by omega)]
    · rw [if_neg e, if_neg l, if_neg (by omega)]

theorem upto_all (h : Nat → BitVec 32) (i : Nat) (hi : i < 32) : upto h 32 i = h i := by unfold upto; rw [if_pos hi]

theorem mat_load {ops : Array Oper} {rest : List Oper} {o : Oper} {a : Act} {w : World} {Q : Exit → Act → World → Prop} {x : Operand} {g : Nat} {m : Nat → BitVec 32} (hA : Arr w g 32 50 m) (hgd : o.guard = none) (ho : o.op = .load 50 x)
    (hx : a.eval x = .pointer (some ⟨g, 0, none⟩)) (h : wpList Try.prog ops Q rest (a.put o.dst (.agg (rowOf 32 m))) w) : wpList Try.prog ops Q (o :: rest) a w :=
  wpList_load_row hgd 50 x ho g hx _ _ _ _ hA.heap Try.underlying50 rfl (by rw [(zero_of_info mat_info).2, rowOf_size]) h

theorem mat_store {ops : Array Oper} {rest : List Oper} {o : Oper} {a : Act} {w : World} {Q : Exit → Act → World → Prop} {x y : Operand} {g : Nat} {m m' : Nat → BitVec 32} (hA : Arr w g 32 50 m) (hgd : o.guard = none) (hds : o.dst = none) (ho : o.op = .store 50 x y)
    (hx : a.eval x = .pointer (some ⟨g, 0, none⟩)) (hy : a.eval y = .agg (rowOf 32 m')) (h : wpList Try.prog ops Q rest a (w.setRow g (rowOf 32 m'))) : wpList Try.prog ops Q (o :: rest) a w :=
  wpList_store_row hgd 50 x y ho g _ hx hy _ _ hA.heap (by rw [(zero_of_info mat_info).2, rowOf_size]) (by rw [rowOf_size, rowOf_size]) (rowOf_one _ _) (by rw [hds]; exact h)

theorem mat_zero (w : World) : Sem.run Try.prog (zeroValue 50) w = .ok (.agg (rowOf 32 fun _ => 0#32)) w := by
  have := (zero_of_info mat_info).1 w
  rwa [rowOf_zero] at this

theorem alloc_size (w : World) (o : Obj) : (w.alloc o).heap.size = w.heap.size + 1 := Array.size_push _

set_option maxHeartbeats 1600000 in
set_option maxRecDepth 100000 in
theorem square_any (m : Nat → BitVec 32) (w : World) :
    Calls Try.prog 30 #[.agg (rowOf 32 m)] w fun e w' => e = .returned (.agg (rowOf 32 (fun i => app m (m i) 32))) ∧ Below w.heap.size w w' := by
  have hz := mat_zero
  have HG := Lib.hid (rowOf_get 32 m)
  have HW : Hid (Arr (((w.alloc (.cells (rowOf 32 m) 50)).alloc (.cells (rowOf 32 fun _ => 0#32) 50)).alloc (.cells (rowOf 32 fun _ => 0#32) 50)) w.heap.size 32 50 m
    ∧ Arr (((w.alloc (.cells (rowOf 32 m) 50)).alloc (.cells (rowOf 32 fun _ => 0#32) 50)).alloc (.cells (rowOf 32 fun _ => 0#32) 50)) (w.heap.size + 1) 32 50 (fun _ => 0#32)
    ∧ Arr (((w.alloc (.cells (rowOf 32 m) 50)).alloc (.cells (rowOf 32 fun _ => 0#32) 50)).alloc (.cells (rowOf 32 fun _ => 0#32) 50)) (w.heap.size + 1 + 1) 32 50 (upto (fun i => app m (m i) 32) 0)
    ∧ Below w.heap.size w (((w.alloc (.cells (rowOf 32 m) 50)).alloc (.cells (rowOf 32 fun _ => 0#32) 50)).alloc (.cells (rowOf 32 fun _ => 0#32) 50))) := by
    have s1 := alloc_size w (.cells (rowOf 32 m) 50)
    have s2 := alloc_size (w.alloc (.cells (rowOf 32 m) 50)) (.cells (rowOf 32 fun _ => 0#32) 50)
    have a1 := arr_new w 32 50 m
    have a2 := arr_new (w.alloc (.cells (rowOf 32 m) 50)) 32 50 (fun _ => 0#32)
    have a3 := arr_new ((w.alloc (.cells (rowOf 32 m) 50)).alloc (.cells (rowOf 32 fun _ => 0#32) 50)) 32 50 (fun _ => 0#32)
    rw [s1] at a2 s2
    rw [s2] at a3
    refine ⟨(a1.alloc _).alloc _, a2.alloc _, a3.congr (fun i _ => ?_), (((Below.refl w.heap.size w).alloc (Nat.le_refl _) _).alloc (by omega) _).alloc (by omega) _⟩
    unfold upto
    rw [if_neg (by omega)]
  have hsz := alloc_size w (.cells (rowOf 32 m) 50)
  have HZR := Lib.hid (rowOf_size 32 m)
  generalize hzr : (rowOf 32 fun _ => 0#32) = z0 at *
  go_enter Try.func30, Try.ntmps30
  go_wp2_with (refine mat_load HW.out.1 rfl rfl rfl ?_)
  obtain ⟨w2, hw2⟩ : ∃ w2, w2 = (((w.alloc (.cells (rowOf 32 m) 50)).alloc (.cells z0 50)).alloc (.cells z0 50)) := ⟨_, rfl⟩
  rw [← hw2] at HW ⊢
  clear hw2 hsz
  generalize hcs : rowOf 32 m = cs at *
  have HCS := Lib.hid hcs
  clear hcs hzr
  go_loopw [7] (fun i wr => ∃ k : Nat, k ≤ 32 ∧ i = .int .i64 k ∧ Hid (Arr wr w.heap.size 32 50 m ∧ Arr wr (w.heap.size + 1) 32 50 (fun _ => 0#32) ∧ Arr wr (w.heap.size + 1 + 1) 32 50 (upto (fun i => app m (m i) 32) k) ∧ Below w.heap.size w wr))
    (fun i _ => 32 - (intOf i).toNat)
  case atStart => exact ⟨0, by omega, rfl, HW⟩
  case round =>
    clear HW
    obtain ⟨k, hk, rfl, HR⟩ := hrel
    by_cases hlt : k < 32
    · have hcell := run_index_row cs k _ hlt (HG.out k hlt)
      have HA := Lib.hid (apply_any m (m k) wr)
      rw [HCS.out] at HA
      go_wp2_with (refine mat_load HR.out.1 rfl rfl rfl ?_; rw [HCS.out])
      refine HA.out.mono ?_
      rintro e w3 ⟨rfl, hb3⟩
      have HQ := Lib.hid (And.intro (HR.out.1.below hb3) (And.intro (HR.out.2.1.below hb3) (And.intro (HR.out.2.2.1.below hb3) (HR.out.2.2.2.trans (hb3.mono HR.out.2.2.2.size)))))
      clear hb3 HR HA hcell
      have hc3 := HQ.out.2.2.1.cell k hlt
      have hfr := HQ.out.2.2.1.frozen k
      have HN : Hid (Arr (w3.setCell ⟨w.heap.size + 1 + 1, k, none⟩ (.int .u32 ((app m (m k) 32).toNat : Int))) w.heap.size 32 50 m
        ∧ Arr (w3.setCell ⟨w.heap.size + 1 + 1, k, none⟩ (.int .u32 ((app m (m k) 32).toNat : Int))) (w.heap.size + 1) 32 50 (fun _ => 0#32)
        ∧ Arr (w3.setCell ⟨w.heap.size + 1 + 1, k, none⟩ (.int .u32 ((app m (m k) 32).toNat : Int))) (w.heap.size + 1 + 1) 32 50 (upto (fun i => app m (m i) 32) (k + 1))
        ∧ Below w.heap.size w (w3.setCell ⟨w.heap.size + 1 + 1, k, none⟩ (.int .u32 ((app m (m k) 32).toNat : Int)))) := by
        refine ⟨HQ.out.1.setOther _ _ (by show w.heap.size ≠ w.heap.size + 1 + 1; omega), HQ.out.2.1.setOther _ _ (by show w.heap.size + 1 ≠ w.heap.size + 1 + 1; omega), ?_, HQ.out.2.2.2.setCell (by show w.heap.size ≤ w.heap.size + 1 + 1; omega) _⟩
        have := HQ.out.2.2.1.set k (app m (m k) 32)
        rwa [upto_turned (fun i => app m (m i) 32) k] at this
      generalize (app m (m k) 32).toNat = ak at *
      generalize (upto (fun i => app m (m i) 32) k k).toNat = ok at *
      clear HQ
      go_wp2_with fail
      go_roundw
      case rel => exact ⟨k + 1, by omega, by go_num, HN⟩
      case measure => simp [intOf]; omega
    · have hk32 : k = 32 := by omega
      subst hk32
      rw [show ((32 : Nat) : Int) = 32 from rfl]
      have HE : Hid (Arr (wr.setRow (w.heap.size + 1) (rowOf 32 (upto (fun i => app m (m i) 32) 32))) (w.heap.size + 1) 32 50 (fun i => app m (m i) 32) ∧ Below w.heap.size w (wr.setRow (w.heap.size + 1) (rowOf 32 (upto (fun i => app m (m i) 32) 32)))) :=
        ⟨(HR.out.2.1.row _).congr (fun i hi => upto_all _ i hi), below_row HR.out.2.2.2 _ _ (by omega)⟩
      go_wp2_with (first
        | (refine mat_load HR.out.2.2.1 rfl rfl rfl ?_)
        | (refine mat_store HR.out.2.1 rfl rfl rfl rfl rfl ?_))
      (try simp only [Exit.inBlock, Exit.then])
      refine bodyPost_ret (results_cell_row rfl _ _ _ _ _ _ _ rfl HE.out.1.heap Try.underlying50 rfl (by rw [(zero_of_info mat_info).2, rowOf_size])) rfl ?_
      exact ⟨rfl, HE.out.2⟩

set_option maxHeartbeats 1600000 in
set_option maxRecDepth 100000 in
theorem zeroByte_any (w : World) :
    Calls Try.prog 28 #[] w fun e w' => e = .returned (.agg (rowOf 32 (fun i => shf (1#32 <<< i) 1))) ∧ Below w.heap.size w w' := by
  have hz := mat_zero
  have HW0 : Hid (Arr (w.alloc (.cells (rowOf 32 fun _ => 0#32) 50)) w.heap.size 32 50 (fun _ => 0#32) ∧ Below w.heap.size w (w.alloc (.cells (rowOf 32 fun _ => 0#32) 50))) :=
    ⟨arr_new _ _ _ _, (Below.refl w.heap.size w).alloc (Nat.le_refl _) _⟩
  have HT := Lib.hid table_any
  have htbs := crcTab_size
  have htb1 := crcTab_one
  have HTr := Lib.hid crcTab_row
  have HZR := Lib.hid (rowOf_zero 32)
  generalize crcTab = tb at *
  generalize hzr : (rowOf 32 fun _ => 0#32) = z0 at *
  go_enter Try.func28, Try.ntmps28
  go_wp2_with fail
  refine (HT.out _).mono ?_
  rintro e w1 ⟨rfl, hb1⟩
  have HW1 := Lib.hid (And.intro (HW0.out.1.below hb1) (below_then HW0.out.2 hb1))
  clear HW0 hb1
  obtain ⟨hz2, hzi⟩ := zero_of_info tab_info
  have hzss : (Array.replicate 256 (Value.int .u32 0)).size = 256 := Array.size_replicate
  generalize Array.replicate 256 (Value.int .u32 0) = zs at *
  have hst := run_storeCells_new w1 33 zs tb (by rw [hzi, htbs]) (by rw [hzss, htbs]) htb1
  have HG : Hid (Arr ((w1.alloc (.cells tb 33)).alloc (.cells z0 50)) w.heap.size 32 50 (fun _ => 0#32)
    ∧ Arr ((w1.alloc (.cells tb 33)).alloc (.cells z0 50)) w1.heap.size 256 33 (fun i => feed 0#32 (i : Int))
    ∧ Arr ((w1.alloc (.cells tb 33)).alloc (.cells z0 50)) (w1.heap.size + 1) 32 50 (upto (fun i => shf (1#32 <<< i) 1) 0)
    ∧ Below w.heap.size w ((w1.alloc (.cells tb 33)).alloc (.cells z0 50))) := by
    have s1 := alloc_size w1 (.cells tb 33)
    have hle := HW1.out.2.size
    have a3 := arr_new (w1.alloc (.cells tb 33)) 32 50 (fun _ => 0#32)
    rw [s1, hzr] at a3
    refine ⟨(HW1.out.1.alloc _).alloc _, ?_, a3.congr (fun i _ => ?_), (HW1.out.2.alloc hle _).alloc (by omega) _⟩
    · rw [HTr.out]; exact (arr_new _ _ _ _).alloc _
    · unfold upto
      rw [if_neg (by omega)]
  have HLt : Hid (w.heap.size < w1.heap.size) := HW1.out.1.lt
  have hsz := alloc_size w1 (.cells tb 33)
  clear htb1 hzss HW1
  go_wp2_with fail
  obtain ⟨w2, hw2⟩ : ∃ w2, w2 = (w1.alloc (.cells tb 33)).alloc (.cells z0 50) := ⟨_, rfl⟩
  rw [← hw2] at HG ⊢
  clear hw2 hsz hst hzr
  go_loopw [5] (fun i wr => ∃ k : Nat, k ≤ 32 ∧ i = .int .i64 k ∧ Hid (Arr wr w.heap.size 32 50 (fun _ => 0#32) ∧ Arr wr w1.heap.size 256 33 (fun i => feed 0#32 (i : Int)) ∧ Arr wr (w1.heap.size + 1) 32 50 (upto (fun i => shf (1#32 <<< i) 1) k) ∧ Below w.heap.size w wr))
    (fun i _ => 32 - (intOf i).toNat)
  case atStart => exact ⟨0, by omega, rfl, HG⟩
  case round =>
    clear HG
    obtain ⟨k, hk, rfl, HR⟩ := hrel
    by_cases hlt : k < 32
    · have h2k : (2 : Int) ^ k % 4294967296 = ((1#32 <<< k).toNat : Int) := by
        rw [BitVec.toNat_shiftLeft, Nat.shiftLeft_eq]
        simp
      have HFd : Hid (Calls Try.prog 23 #[.pointer (some ⟨w1.heap.size, 0, none⟩), .int .u32 ((2 : Int) ^ k % 4294967296), .int .u8 0] wr fun e w' => e = .returned (.int .u32 ((shf (1#32 <<< k) 1).toNat : Int)) ∧ wr = w') := by
        rw [h2k]
        have := feed_any w1.heap.size (1#32 <<< k) 0 wr (by omega) HR.out.2.1
        rw [show ((0 : Nat) : Int) = 0 from rfl, feed_zero] at this
        exact this
      have hc3 := HR.out.2.2.1.cell k hlt
      have hfr := HR.out.2.2.1.frozen k
      have HN : Hid (Arr (wr.setCell ⟨w1.heap.size + 1, k, none⟩ (.int .u32 ((shf (1#32 <<< k) 1).toNat : Int))) w.heap.size 32 50 (fun _ => 0#32)
        ∧ Arr (wr.setCell ⟨w1.heap.size + 1, k, none⟩ (.int .u32 ((shf (1#32 <<< k) 1).toNat : Int))) w1.heap.size 256 33 (fun i => feed 0#32 (i : Int))
        ∧ Arr (wr.setCell ⟨w1.heap.size + 1, k, none⟩ (.int .u32 ((shf (1#32 <<< k) 1).toNat : Int))) (w1.heap.size + 1) 32 50 (upto (fun i => shf (1#32 <<< i) 1) (k + 1))
        ∧ Below w.heap.size w (wr.setCell ⟨w1.heap.size + 1, k, none⟩ (.int .u32 ((shf (1#32 <<< k) 1).toNat : Int)))) := by
        have hl := HLt.out
        refine ⟨HR.out.1.setOther _ _ (by show w.heap.size ≠ w1.heap.size + 1; omega), HR.out.2.1.setOther _ _ (by show w1.heap.size ≠ w1.heap.size + 1; omega), ?_, HR.out.2.2.2.setCell (by show w.heap.size ≤ w1.heap.size + 1; omega) _⟩
        have := HR.out.2.2.1.set k (shf (1#32 <<< k) 1)
        rwa [upto_turned (fun i => shf (1#32 <<< i) 1) k] at this
      generalize (shf (1#32 <<< k) 1).toNat = ak at *
      generalize (upto (fun i => shf (1#32 <<< i) 1) k k).toNat = ok at *
      clear HR h2k
      go_wp2_with (go_at_call 23; refine HFd.out.mono ?_; rintro e w' ⟨rfl, rfl⟩)
      go_roundw
      case rel => exact ⟨k + 1, by omega, by go_num, HN⟩
      case measure => simp [intOf]; omega
    · have hk32 : k = 32 := by omega
      subst hk32
      rw [show ((32 : Nat) : Int) = 32 from rfl]
      have HE : Hid (Arr (wr.setRow w.heap.size (rowOf 32 (upto (fun i => shf (1#32 <<< i) 1) 32))) w.heap.size 32 50 (fun i => shf (1#32 <<< i) 1) ∧ Below w.heap.size w (wr.setRow w.heap.size (rowOf 32 (upto (fun i => shf (1#32 <<< i) 1) 32)))) :=
        ⟨(HR.out.1.row _).congr (fun i hi => upto_all _ i hi), below_row HR.out.2.2.2 _ _ (Nat.le_refl _)⟩
      go_wp2_with (first
        | (refine mat_load HR.out.2.2.1 rfl rfl rfl ?_)
        | (refine mat_store HR.out.1 rfl rfl rfl rfl rfl ?_))
      (try simp only [Exit.inBlock, Exit.then])
      refine bodyPost_ret (results_cell_row rfl _ _ _ _ _ _ _ rfl HE.out.1.heap Try.underlying50 rfl (by rw [(zero_of_info mat_info).2, rowOf_size])) rfl ?_
      exact ⟨rfl, HE.out.2⟩
end Go.Proofs.Ytdjpoffanfgmmaa
