/- The landed code of package key: Check and Fits, over Go's own decoding of runes. -/
import Derived.Test.YtogkabdampkbjaaDoorKeyApi
import Derived.Test.YtogkabdampkbjaaDoorShelf
import Derived.Laws.RangeAny
import Derived.Laws.Runes
import Derived.Lib.OthersKept
import Derived.Lib.Bytealg
import Derived.WalkMore
namespace Go.Proofs.YtogkabdampkbjaaDoor
open Go Go.RowKit

theorem keyIdx (c : UInt8) : Lib.indexByte keyS.data.toList c = kpl (c.toNat : Int) := by
  have h : ∀ i : Fin 256, Lib.indexByte keyS.data.toList (UInt8.ofNat i.val) = kpl (i.val : Int) := by decide +kernel
  have hc := h ⟨c.toNat, c.toNat_lt⟩
  simp only [UInt8.ofNat_toNat] at hc
  exact hc

theorem keyIdx_rune (r : Nat) (h : r < 128) : Lib.indexByte keyS.data.toList ((r : Int).toNat.toUInt8) = kpl (r : Int) := by
  rw [keyIdx]
  congr 1
  have : (r.toUInt8).toNat = r % 256 := by simp
  rw [Int.toNat_natCast, this]
  omega

theorem high_notK (c : Int) (h : 128 ≤ c) : kpl c = -1 := by
  unfold kpl
  (repeat' split) <;> omega

theorem byte_at (s : ByteArray) (k : Nat) (hk : k < s.size) : ((s[k]'hk).toNat : Int) = (numS s).getD k 0 := by
  unfold numS
  have h2 : k < s.data.toList.length := hk
  rw [List.getD_eq_getElem?_getD, List.getElem?_map, List.getElem?_eq_getElem h2]
  rfl

/-- What the search for a rune asks of the string in which it searches: 39 bytes, each below 128. -/
structure Asc (ks : ByteArray) : Prop where
  size : ks.size = 39
  low : ∀ k (hk : k < ks.size), (ks[k]'hk).toNat < 128
  none : ∀ c : UInt8, 128 ≤ c.toNat → ∀ i j, Lib.indexByte (ks.extract i j).data.toList c = -1

theorem keyS_asc : Asc keyS := by
  refine ⟨by decide, ?_, ?_⟩
  · have h : ∀ i : Fin 39, (keyS[i.val]'(by rw [keyS_size]; exact i.isLt)).toNat < 128 := by decide +kernel
    exact fun k hk => h ⟨k, by rw [keyS_size] at hk; exact hk⟩
  · intro c hc i j
    rw [← Lib.firstIdx_eq]
    exact firstIdx_ascii keyS i j c (by decide +kernel) hc

/-- The walk of Go's search for a rune that is no ASCII: it isn't in the string. -/
theorem idx_at {ks : ByteArray} (H : Asc ks) (k : Nat) (hk : k < 39) (w : World) : ∃ c : Int, (Instr.index 9 (.string ks) (.int .i64 k)).run Tryd.prog w = .ok (.int .u8 c) w ∧ 0 ≤ c ∧ c < 128 := by
  have hs := H.size
  refine ⟨_, index_s ks k (by omega) w, ?_⟩
  rw [← byte_at ks k (by omega)]
  have := H.low k (by omega)
  omega

set_option maxHeartbeats 4000000 in
set_option maxRecDepth 100000 in
theorem indexRune_err (ks : ByteArray) (H : Asc ks) (w : World) :
    Calls Tryd.prog 43 #[.string ks, .int .i32 65533] w fun e w' => e = .returned (.int .i64 (-1)) ∧ Below w.heap.size w w' := by
  have HH := Lib.hid H
  clear H
  go_enter Tryd.func43, Tryd.ntmps43
  go_wp2
  go_loopw [] (fun wr => ∃ pos : Nat, pos ≤ 39 ∧ wr.heap[w.heap.size]? = some (.stringIter ks pos) ∧ Below w.heap.size w wr) (fun wr => 39 - wr.iterPos w.heap.size)
  case atStart => exact ⟨0, by omega, World.iter_heap w ks 0, (Below.refl _ w).alloc (Nat.le_refl _) _⟩
  case round =>
    obtain ⟨pos, hpos, hit, hbw⟩ := hrel
    have hs := HH.out.size
    by_cases hp : pos < 39
    · have hp' : pos < ks.size := by omega
      have hlow := HH.out.low pos hp'
      have hnx : ∀ ty, (Instr.next (.pointer (some ⟨w.heap.size, 0, none⟩)) true ty).run Tryd.prog wr = _ := fun ty => Lib.run_next_ascii_at wr w.heap.size ks pos ty hit hp' hlow
      have hit2 := Lib.iterAt_heap wr w.heap.size ks pos (pos + 1) hit
      have hbw2 := Lib.below_iterAt hbw (k := w.heap.size) (by omega) ks (pos + 1)
      generalize (ks[pos]'hp').toNat = c at *
      have hne : ((c : Int) == 65533) = false := by rw [beq_eq_false_iff_ne]; omega
      go_wp2
      go_roundw
      case rel => exact ⟨pos + 1, by omega, hit2, hbw2⟩
      case measure =>
        simp only [World.iterPos, hit2, hit]
        omega
    · have hp' : ¬ pos < ks.size := by omega
      have hnx : ∀ ty, (Instr.next (.pointer (some ⟨w.heap.size, 0, none⟩)) true ty).run Tryd.prog wr = _ := fun ty => Lib.run_next_end_at wr w.heap.size ks pos ty hit hp'
      go_wp2
      go_ret
      exact ⟨rfl, hbw⟩

set_option maxHeartbeats 4000000 in
set_option maxRecDepth 1000000 in
theorem indexRune_high (ks : ByteArray) (H : Asc ks) (r : Nat) (h0 : 128 ≤ r) (h1 : r ≤ 2147483647) (w : World) :
    Calls Tryd.prog 43 #[.string ks, .int .i32 r] w fun e w' => e = .returned (.int .i64 (-1)) ∧ Below w.heap.size w w' := by
  by_cases he : r = 65533
  · subst he; exact indexRune_err ks H w
  have hne : ((r : Int) == 65533) = false := by rw [beq_eq_false_iff_ne]; omega
  have hlt : ¬ (r : Int) < 128 := by omega
  have hr0 : (0 : Int) ≤ (r : Int) := by omega
  by_cases hv : Lib.validRune (r : Int) = true
  · have hef := encode_facts (r : Int) (by rw [validRune_eq]; exact hv) (by omega)
    obtain ⟨he2, he4, hel⟩ := hef
    have hcv : ∀ w, (convert 21 9 (.int .i32 (r : Int))).run Tryd.prog w = .ok (.string (Utf8.encode (r : Int))) w := fun w => run_convert_int_string w _ _ _ _ (by kernel_rfl) Tryd.underlying9
    generalize Utf8.encode (r : Int) = rs at *
    have hlast := hel (by omega)
    obtain ⟨m, hm⟩ : ∃ m : Nat, rs.size = m + 1 := ⟨rs.size - 1, by omega⟩
    have HIr := Lib.hid (index_s rs m (by omega))
    have hcl : ∃ c : UInt8, 128 ≤ c.toNat ∧ (numS rs).getD m 0 = (c.toNat : Int) := by
      refine ⟨rs[m]'(by omega), ?_, (byte_at rs m (by omega)).symm⟩
      have : rs.size - 1 = m := by omega
      simp only [this] at hlast
      exact hlast
    obtain ⟨c, hc, hcv2⟩ := hcl
    have ixr := HIr.out
    rw [hcv2] at ixr
    obtain ⟨d, hd⟩ : ∃ d : Int, ∀ w, (Instr.index 9 (.string ks) (.int .i64 m)).run Tryd.prog w = .ok (.int .u8 d) w ∧ 0 ≤ d ∧ d < 128 := by
      have hs := H.size
      refine ⟨(numS ks).getD m 0, fun w => ⟨index_s ks m (by omega) w, ?_⟩⟩
      rw [← byte_at ks m (by omega)]
      have := H.low m (by omega)
      omega
    have ixk := fun w => (hd w).1
    have hd0 := (hd default).2.1
    have hd1 := (hd default).2.2
    have hdc : (d == (c.toNat : Int)) = false := by rw [beq_eq_false_iff_ne]; omega
    have hix : ∀ i j, Lib.indexByte (ks.extract i j).data.toList (c.toNat : Int).toNat.toUInt8 = -1 := fun i j => by
      have : ((c.toNat : Int).toNat.toUInt8) = c := by simp
      rw [this]; exact H.none c hc i j
    have hks := H.size
    have HIx := Lib.hid hix
    have hrsm : (rs.size : Int) - 1 = (m : Int) := by omega
    have hm0 : (0 : Int) ≤ (m : Int) := by omega
    have hm39 : (m : Int) < 39 := by omega
    have hks2 : (ks.size : Int) = 39 := by omega
    have hw1 : IntKind.i64.wrap ((m : Int) + 1) = ((m + 1 : Nat) : Int) := by rw [wrap_small _ (by omega) (by omega)]; omega
    clear hix hd hel hlast hcv2 he2 he4 H HIr
    go_enter Tryd.func43, Tryd.ntmps43
    go_wp2_with (go_at_call 54; refine (Tryd.utf8_ValidRune (r : Int) _).mono ?_; rw [hv]; rintro e w' ⟨rfl, hw⟩; rw [hw])
    go_step3
    go_wp2
    go_loopw [9] (fun i wr => i = .int .i64 m ∧ Hid (Below w.heap.size w wr)) (fun _ _ => 0)
    case atStart => exact ⟨by go_num, Below.refl _ _⟩
    case round =>
      obtain ⟨rfl, HB⟩ := hrel
      go_wp2_with fail
      go_step3
      go_wp2_with fail
      go_quiet (fail)
      rename_i nq
      have HN := Lib.hid (below_drewN HB.out nq)
      generalize wr.drewN nq = wz at *
      go_wp2_with fail
      go_quiet ((go_at_call 26; exact Calls.quiet_of_same (Tryd.strings_IndexByte _ _ _)))
      rename_i nq
      rw [HIx.out (m + 1) 39]
      have HN2 := Lib.hid (below_drewN HN.out nq)
      generalize wz.drewN nq = wy at *
      go_wp2_with fail
      rw [Exit.noGoto_ret]
      go_wp2
      rw [Exit.noGoto_ret]
      go_ret
      exact ⟨rfl, HN2.out⟩
  · have hv' : Lib.validRune (r : Int) = false := by simpa using hv
    go_enter Tryd.func43, Tryd.ntmps43
    go_wp2_with (go_at_call 54; refine (Tryd.utf8_ValidRune (r : Int) _).mono ?_; rw [hv']; rintro e w' ⟨rfl, rfl⟩)
    go_ret
    exact ⟨rfl, Below.refl _ _⟩

theorem isK_rune (r : Nat) (h : r < 128) : decide (0 ≤ Lib.indexByte keyS.data.toList ((r : Int).toNat.toUInt8)) = isK (r : Int) := by
  rw [keyIdx_rune r h]; rfl

/-- Is a rune a key character? -/
theorem containsRune_any (r : Nat) (h1 : r ≤ 2147483647) (w : World) :
    Calls Tryd.prog 28 #[.string keyS, .int .i32 r] w fun e w' => e = .returned (.bool (isK (r : Int))) ∧ Below w.heap.size w w' := by
  by_cases h0 : r < 128
  · have := Tryd.strings_ContainsRune_ascii keyS (r : Int) w (by omega) (by omega)
    refine this.mono fun e w' ⟨he, hw⟩ => ⟨?_, hw ▸ Below.refl _ _⟩
    rw [he, isK_rune r h0]
  · have hk : isK (r : Int) = false := by unfold isK; rw [high_notK _ (by omega)]; rfl
    rw [hk]
    have HI := Lib.hid (indexRune_high keyS keyS_asc r (by omega) h1)
    generalize keyS = ks at *
    go_enter Tryd.func28, Tryd.ntmps28
    go_wp2_with fail
    refine (HI.out w).mono ?_
    rintro e w1 ⟨rfl, hb⟩
    go_wp2_with fail
    go_ret
    exact ⟨rfl, hb⟩
end Go.Proofs.YtogkabdampkbjaaDoor
