/- The landed code of package key: Next, over an array of 32 bytes. -/
import Derived.Test.YtogkabdampkbjaaDoorKeyImp2
import Derived.Lib.BufferWrite
import Derived.Lib.SlBuf
import Derived.Deep.WholeRow
import Derived.Laws.CopyOwn
namespace Go.Proofs.YtogkabdampkbjaaDoor
open Go Go.RowKit

set_option maxRecDepth 100000 in
theorem labove_last (w : World) :
    Calls Tryd.prog 31 #[.int .u8 122] w fun e w' => e = .returned (.tuple #[.int .u8 0, .bool false]) ∧ w' = w := by
  have hI := Tryd.strings_IndexByte keyS 122 w
  rw [show (122 : Int).toNat.toUInt8 = (122 : UInt8) from rfl, keyIdx, show kpl (((122 : UInt8)).toNat : Int) = 38 from by decide] at hI
  have HI := Lib.hid hI
  clear hI
  go_enter Tryd.func31, Tryd.ntmps31
  go_wp2_with fail
  refine HI.out.mono ?_
  rintro e w1 ⟨rfl, hw⟩
  rw [hw]
  go_wp2_with fail
  go_ret2
  exact ⟨rfl, rfl⟩

set_option maxRecDepth 100000 in
theorem labove_any (c : Int) (h0 : 0 ≤ kpl c) (h1 : kpl c < 38) (hc0 : 0 ≤ c) (hc1 : c < 256) (w : World) :
    Calls Tryd.prog 31 #[.int .u8 c] w fun e w' => e = .returned (.tuple #[.int .u8 (keyL.getD (kpl c + 1).toNat 0), .bool true]) ∧ w' = w := by
  have hI := Tryd.strings_IndexByte keyS c w
  have hcc : ((c.toNat.toUInt8).toNat : Int) = c := by
    have : (c.toNat.toUInt8).toNat = c.toNat % 256 := by simp
    omega
  rw [keyIdx, hcc] at hI
  obtain ⟨k, hk⟩ : ∃ k : Nat, kpl c = (k : Int) := ⟨(kpl c).toNat, by omega⟩
  rw [hk] at hI h1 ⊢
  have hix := index_s keyS (k + 1) (by rw [keyS_size]; omega)
  rw [numS_keyS] at hix
  have e : ((k : Int) + 1).toNat = k + 1 := by omega
  rw [e]
  have HI := Lib.hid hI
  have hne : ((k : Int) + 1 == 39) = false := by rw [beq_eq_false_iff_ne]; omega
  have hw1 : IntKind.i64.wrap ((k : Int) + 1) = (k : Int) + 1 := wrap_small _ (by omega) (by omega)
  have hix2 : ∀ w, (Instr.index 9 (.string keyS) (.int .i64 ((k : Int) + 1))).run Tryd.prog w = .ok (.int .u8 (keyL.getD (k + 1) 0)) w := hix
  clear hI hix e hcc h0 hk
  generalize keyL.getD (k + 1) 0 = d at *
  generalize hks : keyS = ks at *
  unfold keyS at hks
  subst hks
  go_enter Tryd.func31, Tryd.ntmps31
  go_wp2_with fail
  refine HI.out.mono ?_
  rintro e w1 ⟨rfl, hw⟩
  rw [hw]
  go_wp2_with fail
  go_ret2
  exact ⟨rfl, rfl⟩

theorem arr_info : (Tryd.prog.info? 48).map (fun i => (i.zero, i.size)) = some (some (.agg (Array.replicate 32 (.int .u8 0))), 32) := by kernel_rfl

/-- In the block g lies an array of 32 bytes. -/
structure A32 (W : World) (g : Nat) (l : List Int) : Prop where
  len : l.length = 32
  heap : W.heap[g]? = some (.cells (l.map (Value.int .u8)).toArray 48 (0, 0))
  rng : ∀ x ∈ l, 0 ≤ x ∧ x < 256

theorem A32.sl {W : World} {g : Nat} {l : List Int} (h : A32 W g l) : Sl W (some ⟨g, 0, none⟩) 32 32 l := by
  refine ⟨h.len, Nat.le_refl _, ?_, (fun h => by cases h), h.rng⟩
  intro _
  refine ⟨g, 0, rfl, fun i hi => ?_⟩
  have hl := h.len
  unfold World.cell?
  rw [Nat.zero_add]
  simp only [h.heap]
  simp [List.getD, show i < l.length by omega]


theorem A32.at {W : World} {g : Nat} {l : List Int} (h : A32 W g l) (k : Nat) (hk : k < 32) : W.cell? ⟨g, k, none⟩ = some (.int .u8 (l.getD k 0)) := by
  have hl := h.len
  unfold World.cell?
  simp only [h.heap]
  simp [List.getD, show k < l.length by omega]

theorem A32.unfrozen {W : World} {g : Nat} {l : List Int} (h : A32 W g l) (k : Nat) : W.frozen? ⟨g, k, none⟩ = false := by
  unfold World.frozen?
  simp only [h.heap]
  simp

theorem A32.set {W : World} {g : Nat} {l : List Int} (h : A32 W g l) (k : Nat) (hk : k < 32) (c : Int) (h0 : 0 ≤ c) (h1 : c < 256) : A32 (W.setCell ⟨g, k, none⟩ (.int .u8 c)) g (l.set k c) := by
  refine ⟨by rw [List.length_set]; exact h.len, ?_, ?_⟩
  · rw [heap_setCell_same W g k _ _ (.int .u8 c) h.heap]
    congr 2
    simp
  · intro x hx
    rcases List.mem_or_eq_of_mem_set hx with hx | rfl
    · exact h.rng x hx
    · exact ⟨h0, h1⟩

theorem a32_new (W : World) (s : ByteArray) (hs : s.size ≤ 32) (W2 : World) (hW2 : W2 = (W.alloc (.cells (Array.replicate 32 (.int .u8 0)) 48)).setRow W.heap.size ((Array.replicate 32 (Value.int .u8 0)).toList.take 0 ++ Lib.byteCells s.data.toList ++ (Array.replicate 32 (Value.int .u8 0)).toList.drop (0 + s.size)).toArray) :
    A32 W2 W.heap.size (numS s ++ List.replicate (32 - s.size) 0) ∧ Below W.heap.size W W2 := by
  subst hW2
  have hb : Below W.heap.size W (W.alloc (.cells (Array.replicate 32 (.int .u8 0)) 48)) := (Below.refl _ _).alloc (Nat.le_refl _) _
  have hn := numS_length s
  refine ⟨⟨by simp [hn]; omega, ?_, ?_⟩, below_setRow hb (Nat.le_refl _) _⟩
  · rw [setRow_heap _ _ _ _ 48 (0, 0) (heap_alloc_last W _)]
    rw [Array.toList_replicate, List.take_zero, List.nil_append, Nat.zero_add, List.drop_replicate, List.map_append, List.map_replicate]
    simp only [Lib.byteCells, numS, List.map_map]
    rfl
  · intro x hx
    rcases List.mem_append.1 hx with hx | hx
    · exact numS_rng s x hx
    · rw [(List.mem_replicate.1 hx).2]; omega

theorem keyFirst (w : World) : (Instr.index 9 (.string ⟨#[45, 46, 48, 49, 50, 51, 52, 53, 54, 55, 56, 57, 95, 97, 98, 99, 100, 101, 102, 103, 104, 105, 106, 107, 108, 109, 110, 111, 112, 113, 114, 115, 116, 117, 118, 119, 120, 121, 122]⟩) (.int .i64 0)).run Tryd.prog w = .ok (.int .u8 45) w := by
  have h := index_s keyS 0 (by rw [keyS_size]; decide) w
  rw [numS_keyS] at h
  exact h

theorem sliceUp (W : World) (g k : Nat) (hk : k ≤ 32) : (Instr.sliceAt 48 (.pointer (some ⟨g, 0, none⟩)) none (some (.int .i64 k)) none).run Tryd.prog W = .ok (.slice (some ⟨g, 0, none⟩) k 32) W := by
  have hal : Tryd.prog.arrayLen 48 = 32 := by simp [Program.arrayLen, Tryd.underlying48]
  rw [run_sliceAt_array_h W 48 ⟨g, 0, none⟩ (by simp [Program.arrayLen, Program.elem, Tryd.underlying48]) .i64 (k : Int) (by omega) (by rw [hal]; omega)]
  go_simp

theorem set_end (l : List Int) (n : Nat) (z : List Int) (c : Int) (h : l.length = n) (hz : 0 < z.length) : ((l ++ z).set n c).take (n + 1) = l ++ [c] := by
  cases z with
  | nil => simp at hz
  | cons y z =>
    subst h
    rw [List.set_append_right _ _ (Nat.le_refl _), Nat.sub_self, List.set_cons_zero, List.take_append, List.take_of_length_le (by omega)]
    simp

set_option maxHeartbeats 4000000 in
set_option maxRecDepth 100000 in
theorem lNext_any (s : ByteArray) (w : World) (hl : s.size ≤ 1000000) :
    Calls Tryd.prog 20 #[.string s] w fun e w' => e = .returned (.tuple #[.string (kNextS s).1, .bool (kNextS s).2]) ∧ Below w.heap.size w w' := by
  obtain ⟨r, hr⟩ : ∃ r, r = kNextS s := ⟨_, rfl⟩
  rw [← hr]
  unfold kNextS kNext at hr
  rw [numS_length] at hr
  have HC := Lib.hid (lCheck_any s w hl)
  have hkey := (kCheck_key (numS s)).1
  generalize kCheck (numS s) = c at *
  by_cases h0 : c = 0
  · subst h0
    rw [if_neg (by simp)] at hr
    have HKey := Lib.hid (hkey rfl)
    have hle := (hkey rfl).le
    rw [numS_length] at hle
    clear hkey
    have HR := Lib.hid hr
    clear hr hl
    obtain ⟨hz, hzi⟩ := zero_of_info arr_info
    have hal : Tryd.prog.arrayLen 48 = 32 := by simp [Program.arrayLen, Tryd.underlying48]
    have hsl : ∀ W g, (Instr.sliceAt 48 (.pointer (some ⟨g, 0, none⟩)) none none none).run Tryd.prog W = .ok (.slice (some ⟨g, 0, none⟩) 32 32) W := fun W g => by
      rw [run_sliceAt_array_all W 48 ⟨g, 0, none⟩ (by simp [Program.arrayLen, Program.elem, Tryd.underlying48])]
      go_simp
    go_enter Tryd.func20, Tryd.ntmps20
    go_wp2_with fail
    refine HC.out.mono ?_
    rintro e w1 ⟨rfl, hb1⟩
    obtain ⟨W2, hW2⟩ : ∃ W2, W2 = (w1.alloc (.cells (Array.replicate 32 (.int .u8 0)) 48)).setRow w1.heap.size ((Array.replicate 32 (Value.int .u8 0)).toList.take 0 ++ Lib.byteCells s.data.toList ++ (Array.replicate 32 (Value.int .u8 0)).toList.drop (0 + s.size)).toArray := ⟨_, rfl⟩
    have hcp := Lib.run_copy_row_string (P := Tryd.prog) (w1.alloc (.cells (Array.replicate 32 (.int .u8 0)) 48)) 33 9 3 5 w1.heap.size 0 32 32 s (Array.replicate 32 (.int .u8 0)) 48 Tryd.underlying33 (by kernel_rfl) (heap_alloc_last w1 _) hle (by rw [Array.size_replicate]; omega)
    rw [← hW2] at hcp
    obtain ⟨hA2, hB2⟩ := a32_new w1 s hle W2 hW2
    have HA2 := Lib.hid hA2
    have HB2 := Lib.hid (below_then5 hb1 hB2)
    have hg0 : w1.heap.size < W2.heap.size := (Array.getElem?_eq_some_iff.1 hA2.heap).1
    have hgw : w.heap.size ≤ w1.heap.size := hb1.size
    clear hW2 hA2 hB2 hb1
    by_cases hs : s.size < 32
    · have hr2 := HR.out
      rw [if_pos hs] at hr2
      have hsi : (s.size : Int) < 32 := by omega
      have hs0 : (0 : Int) ≤ (s.size : Int) := by omega
      have hc2 := HA2.out.at s.size hs
      have hf2 := HA2.out.unfrozen s.size
      have hA3 := HA2.out.set s.size hs 45 (by omega) (by omega)
      have hb3 : Below w.heap.size w (W2.setCell ⟨w1.heap.size, s.size, none⟩ (.int .u8 45)) := HB2.out.setCell hgw _
      have hcv := conv_sl (hA3.sl.take (s.size + 1) (by omega))
      rw [set_end _ _ _ _ (numS_length s) (by rw [List.length_replicate]; omega)] at hcv
      have hsu := fun W => sliceUp W w1.heap.size (s.size + 1) (by omega)
      have e1 : ((s.size + 1 : Nat) : Int) = (s.size : Int) + 1 := by omega
      rw [e1] at hsu
      have hw1 : IntKind.i64.wrap ((s.size : Int) + 1) = (s.size : Int) + 1 := wrap_small _ (by omega) (by omega)
      have hk0 := keyFirst
      have HE : Hid (r = (strI (numS s ++ [45]), true)) := hr2
      generalize strI (numS s ++ [45]) = v at *
      clear hr2 hA3 HR e1
      have HB3 := Lib.hid hb3
      clear hb3
      go_wp2_with fail
      go_ret2
      obtain rfl := HE.out
      exact ⟨rfl, HB3.out⟩
    · have hr2 := HR.out
      rw [if_neg hs] at hr2
      have hs32 : s.size = 32 := by omega
      rw [hs32] at hr2
      have hA32 := HA2.out
      rw [show 32 - s.size = 0 from by omega, List.replicate_zero, List.append_nil] at hA32
      have HA := Lib.hid hA32
      have hch := HKey.out.ch
      have hln := numS_length s
      rw [hs32] at hln
      have HR2 := Lib.hid hr2
      have HCH := Lib.hid hch
      have hsi : (s.size : Int) = 32 := by omega
      rw [hs32] at hcp
      clear hr2 HR HA2 hA32 hch HKey
      generalize numS s = l at *
      have hgi : goInt 32 = .int .i64 32 := rfl
      go_wp2_with fail
      go_loopw [6] (fun i wr => ∃ k : Nat, k ≤ 32 ∧ i = .int .i64 ((k : Int) - 1) ∧ Hid (A32 wr w1.heap.size l ∧ Below w.heap.size w wr ∧ nxtAt l 32 = nxtAt l k)) (fun i _ => match i with | .int _ n => (n + 1).toNat | _ => 0)
      case atStart => exact ⟨32, by omega, rfl, HA.out, HB2.out, rfl⟩
      case round =>
        clear HA HB2 hcp
        obtain ⟨k, hk, rfl, HW⟩ := hrel
        obtain ⟨hAw, hBw, hnx⟩ := HW.out
        cases k with
        | zero =>
          have hrn : r = (⟨#[]⟩, false) := by rw [HR2.out, hnx]; rfl
          subst hrn
          clear hAw hnx
          go_wp2_with fail
          go_ret2
          exact ⟨rfl, hBw⟩
        | succ j =>
          have hci := hAw.at j (by omega)
          have hfi := hAw.unfrozen j
          have e1 : ((j + 1 : Nat) : Int) - 1 = (j : Int) := by omega
          rw [e1]
          have hj0 : (0 : Int) ≤ (j : Int) := by omega
          have hj32 : (j : Int) < 32 := by omega
          have hrg := getD_rng hAw.rng j (by omega)
          have hkc := HCH.out (l.getD j 0) (by simp only [List.getD_eq_getElem?_getD, List.getElem?_eq_getElem (show j < l.length by omega), Option.getD_some]; exact List.getElem_mem _)
          have hstep : nxtAt l (j + 1) = if kpl (l.getD j 0) < 38 then some (l.take j ++ [keyL.getD (kpl (l.getD j 0) + 1).toNat 0]) else nxtAt l j := rfl
          by_cases hlt : kpl (l.getD j 0) < 38
          · rw [if_pos hlt] at hstep
            have hab := fun W => labove_any (l.getD j 0) hkc hlt hrg.1 hrg.2 W
            have hdr : 0 ≤ keyL.getD (kpl (l.getD j 0) + 1).toNat 0 ∧ keyL.getD (kpl (l.getD j 0) + 1).toNat 0 < 256 := by
              have hall : ∀ x ∈ keyL, 0 ≤ x ∧ x < 256 := by decide
              refine getD_rng hall _ ?_
              show _ < 39
              omega
            generalize keyL.getD (kpl (l.getD j 0) + 1).toNat 0 = d at *
            have hA3 := hAw.set j (by omega) d hdr.1 hdr.2
            have hb3 : Below w.heap.size w (wr.setCell ⟨w1.heap.size, j, none⟩ (.int .u8 d)) := hBw.setCell hgw _
            have hcv := conv_sl (hA3.sl.take (j + 1) (by omega))
            have hset : (l.set j d).take (j + 1) = l.take j ++ [d] := by
              rw [take_succ_getD _ j (by rw [List.length_set]; omega)]
              congr 1
              · rw [List.take_set_of_le (Nat.le_refl _)]
              · simp [List.getD, show j < l.length by omega]
            rw [hset] at hcv
            have hrs : r = (strI (l.take j ++ [d]), true) := by rw [HR2.out, hnx, hstep]
            generalize strI (l.take j ++ [d]) = v at *
            subst hrs
            have hsu := fun W => sliceUp W w1.heap.size (j + 1) (by omega)
            have e2 : ((j + 1 : Nat) : Int) = (j : Int) + 1 := by omega
            rw [e2] at hsu
            have hw1 : IntKind.i64.wrap ((j : Int) + 1) = (j : Int) + 1 := wrap_small _ (by omega) (by omega)
            have HAB := Lib.hid hab
            have HB3 := Lib.hid hb3
            clear hstep hkc hlt hset hA3 hab hb3 hnx hAw hBw e1 e2 HW HR2 HCH hln
            generalize l.getD j 0 = c at *
            go_wp2_with (go_at_call 31; refine (HAB.out _).mono ?_; rintro e w3 ⟨rfl, hw3⟩; rw [hw3])
            go_ret2
            exact ⟨rfl, HB3.out⟩
          · have hc := kpl_max hlt
            rw [if_neg hlt] at hstep
            rw [hc] at hci
            have HAB := Lib.hid labove_last
            have HN : Hid (A32 wr w1.heap.size l ∧ Below w.heap.size w wr ∧ nxtAt l 32 = nxtAt l j) := ⟨hAw, hBw, by rw [hnx, hstep]⟩
            clear hstep hkc hlt hrg hnx hAw hBw HW HR2 HCH hln hc
            go_wp2_with (go_at_call 31; refine (HAB.out _).mono ?_; rintro e w3 ⟨rfl, hw3⟩; rw [hw3])
            go_roundw
            case rel => exact ⟨j, by omega, by go_num, HN⟩
            case measure => simp
  · rw [if_pos h0] at hr
    subst hr
    have h3b : (c == 0) = false := by rw [beq_eq_false_iff_ne]; exact h0
    go_enter Tryd.func20, Tryd.ntmps20
    go_wp2_with fail
    refine HC.out.mono ?_
    rintro e w' ⟨rfl, hb⟩
    go_wp2_with fail
    go_ret2
    exact ⟨rfl, hb⟩
end Go.Proofs.YtogkabdampkbjaaDoor
