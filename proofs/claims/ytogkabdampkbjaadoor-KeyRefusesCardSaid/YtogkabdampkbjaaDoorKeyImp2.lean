/- The landed code of package key: Check, Fits, Order, Common. -/
import Derived.Test.YtogkabdampkbjaaDoorKeyImp1
namespace Go.Proofs.YtogkabdampkbjaaDoor
open Go Go.RowKit

theorem all_take_bad {l : List Int} {k : Nat} (hk : k < l.length) (h : isK (l.getD k 0) = false) : l.all isK = false := by
  cases hh : l.all isK with
  | false => rfl
  | true =>
    rw [List.all_eq_true] at hh
    have := hh (l.getD k 0) (by simp only [List.getD_eq_getElem?_getD, List.getElem?_eq_getElem hk, Option.getD_some]; exact List.getElem_mem _)
    rw [h] at this
    cases this

set_option maxHeartbeats 4000000 in
set_option maxRecDepth 1000000 in
theorem lCheck_any (s : ByteArray) (w : World) (hl : s.size ≤ 1000000) :
    Calls Tryd.prog 12 #[.string s] w fun e w' => e = .returned (.int .i64 (kCheck (numS s))) ∧ Below w.heap.size w w' := by
  obtain ⟨r, hr⟩ : ∃ r, r = kCheck (numS s) := ⟨_, rfl⟩
  rw [← hr]
  unfold kCheck at hr
  have hie := isEmpty_t s
  have hlen := numS_length s
  by_cases h0 : s.size = 0
  · rw [decide_eq_true h0] at hie
    have hn : numS s = [] := List.eq_nil_of_length_eq_zero (by omega)
    rw [if_pos hn] at hr
    subst hr
    clear hn hlen h0
    go_enter Tryd.func12, Tryd.ntmps12
    go_wp2_with fail
    go_ret
    exact ⟨rfl, Below.refl _ _⟩
  rw [decide_eq_false h0] at hie
  rw [if_neg (fun h => by rw [h] at hlen; simp at hlen; omega)] at hr
  have HRes := Lib.hid hr
  have HX := Lib.hid hlen
  have HC := Lib.hid containsRune_any
  clear hr hlen h0
  go_enter Tryd.func12, Tryd.ntmps12
  go_wp2_with fail
  go_loopw [] (fun wr => ∃ pos : Nat, pos ≤ s.size ∧ wr.heap[w.heap.size]? = some (.stringIter s pos) ∧ Hid (Below w.heap.size w wr ∧ ((numS s).take pos).all isK = true)) (fun wr => s.size - wr.iterPos w.heap.size)
  case atStart => exact ⟨0, by omega, World.iter_heap w s 0, (Below.refl _ w).alloc (Nat.le_refl _) _, rfl⟩
  case round =>
    obtain ⟨pos, hpos, hit, HK⟩ := hrel
    have hlen2 := HX.out
    by_cases hp : pos < s.size
    · have hnx : ∀ ty, (Instr.next (.pointer (some ⟨w.heap.size, 0, none⟩)) true ty).run Tryd.prog wr = _ := fun ty => Lib.run_next_any_at wr w.heap.size s pos ty hit hp
      have htk := take_succ_getD (numS s) pos (by rw [hlen2]; exact hp)
      have hdl := decode_le s pos
      have hba := byte_at s pos hp
      by_cases ha : (s[pos]'hp).toNat < 128
      · rw [decode_ascii s pos hp ha] at hnx
        have hit2 := Lib.iterAt_heap wr w.heap.size s pos (pos + 1) hit
        have hbw2 := Lib.below_iterAt HK.out.1 (k := w.heap.size) (Nat.le_refl _) s (pos + 1)
        have hsz2 : w.heap.size < (wr.iterAt w.heap.size s (pos + 1)).heap.size := by rw [Lib.iterAt_size]; exact (Array.getElem?_eq_some_iff.1 hit).1
        have hbad : isK ((numS s).getD pos 0) = false → (numS s).all isK = false := all_take_bad (by rw [hlen2]; exact hp)
        rw [← hba] at htk hbad
        clear hba
        dsimp only at hnx
        generalize (s[pos]'hp).toNat = c at *
        have HCc := Lib.hid (HC.out c (by omega) (wr.iterAt w.heap.size s (pos + 1)))
        cases hk : isK (c : Int) with
        | false =>
          have hres : r = 2 := by rw [HRes.out, if_pos (hbad hk)]
          subst hres
          rw [hk] at HCc
          clear hbad htk hit
          go_wp2_with (go_at_call 28; refine HCc.out.mono ?_; rintro e w1 ⟨rfl, hb1⟩)
          go_ret
          exact ⟨rfl, below_then5 hbw2 hb1⟩
        | true =>
          have HN : Hid (((numS s).take (pos + 1)).all isK = true) := by
            show ((numS s).take (pos + 1)).all isK = true
            rw [htk, List.all_append, HK.out.2]
            simp [hk]
          rw [hk] at HCc
          clear hbad htk
          go_wp2_with (go_at_call 28; refine HCc.out.mono ?_; rintro e w1 ⟨rfl, hb1⟩)
          have hit3 : w1.heap[w.heap.size]? = some (.stringIter s (pos + 1)) := (hb1.block _ hsz2).trans hit2
          go_roundw
          case rel => exact ⟨pos + 1, by omega, hit3, below_then5 hbw2 hb1, HN.out⟩
          case measure =>
            simp only [World.iterPos, hit3, hit]
            omega
      · have hdh := decode_high s pos hp (by omega)
        have hbw2 := Lib.below_iterAt HK.out.1 (k := w.heap.size) (Nat.le_refl _) s (pos + (Utf8.decode s pos).2)
        have hbad : isK ((numS s).getD pos 0) = false → (numS s).all isK = false := all_take_bad (by rw [hlen2]; exact hp)
        have hres : r = 2 := by
          rw [HRes.out, if_pos (hbad ?_)]
          rw [← hba]
          unfold isK; rw [high_notK _ (by omega)]; rfl
        subst hres
        generalize (Utf8.decode s pos).1 = c at *
        generalize (Utf8.decode s pos).2 = d at *
        have HCc := Lib.hid (HC.out c (by omega) (wr.iterAt w.heap.size s (pos + d)))
        have hk : isK (c : Int) = false := by unfold isK; rw [high_notK _ (by omega)]; rfl
        rw [hk] at HCc
        clear hbad htk hit hba ha
        go_wp2_with (go_at_call 28; refine HCc.out.mono ?_; rintro e w1 ⟨rfl, hb1⟩)
        go_ret
        exact ⟨rfl, below_then5 hbw2 hb1⟩
    · have hnx : ∀ ty, (Instr.next (.pointer (some ⟨w.heap.size, 0, none⟩)) true ty).run Tryd.prog wr = _ := fun ty => Lib.run_next_end_at wr w.heap.size s pos ty hit hp
      have hps : pos = s.size := by omega
      subst hps
      have hall : (numS s).all isK = true := by
        have := HK.out.2
        rwa [List.take_of_length_le (by rw [hlen2]; exact Nat.le_refl _)] at this
      by_cases h32 : 32 < s.size
      · have hres : r = 12 := by rw [HRes.out, if_neg (by rw [hall]; simp), if_pos (by rw [hlen2]; exact h32)]
        subst hres
        clear hall hit
        go_wp2_with fail
        go_ret
        exact ⟨rfl, HK.out.1⟩
      · have hres : r = 0 := by rw [HRes.out, if_neg (by rw [hall]; simp), if_neg (by rw [hlen2]; exact h32)]
        subst hres
        clear hall hit
        go_wp2_with fail
        go_ret
        exact ⟨rfl, HK.out.1⟩

set_option maxHeartbeats 1600000 in
set_option maxRecDepth 100000 in
theorem lFits_any (s : ByteArray) (m : Int) (w : World) (hl : s.size ≤ 1000000) :
    Calls Tryd.prog 14 #[.string s, .int .i64 m] w fun e w' => e = .returned (.int .i64 (kFits (numS s) m)) ∧ Below w.heap.size w w' := by
  obtain ⟨r, hr⟩ : ∃ r, r = kFits (numS s) m := ⟨_, rfl⟩
  rw [← hr]
  unfold kFits at hr
  rw [numS_length] at hr
  have HC := Lib.hid (lCheck_any s w hl)
  generalize kCheck (numS s) = c at *
  by_cases h1 : m < 1
  · rw [if_pos (.inl h1)] at hr
    subst hr
    go_enter Tryd.func14, Tryd.ntmps14
    go_wp2_with fail
    go_ret
    exact ⟨rfl, Below.refl _ _⟩
  by_cases h2 : 32 < m
  · rw [if_pos (.inr h2)] at hr
    subst hr
    go_enter Tryd.func14, Tryd.ntmps14
    go_wp2_with fail
    go_ret
    exact ⟨rfl, Below.refl _ _⟩
  rw [if_neg (by omega)] at hr
  by_cases h3 : c = 0
  · by_cases h4 : m < (s.size : Int)
    · rw [if_pos ⟨h3, h4⟩] at hr
      subst hr; subst h3
      go_enter Tryd.func14, Tryd.ntmps14
      go_wp2_with fail
      refine HC.out.mono ?_
      rintro e w' ⟨rfl, hb⟩
      go_wp2_with fail
      go_ret
      exact ⟨rfl, hb⟩
    · rw [if_neg (fun h => h4 h.2)] at hr
      subst hr; subst h3
      go_enter Tryd.func14, Tryd.ntmps14
      go_wp2_with fail
      refine HC.out.mono ?_
      rintro e w' ⟨rfl, hb⟩
      go_wp2_with fail
      go_ret
      exact ⟨rfl, hb⟩
  · rw [if_neg (fun h => h3 h.1)] at hr
    subst hr
    have h3b : (r == 0) = false := by rw [beq_eq_false_iff_ne]; exact h3
    go_enter Tryd.func14, Tryd.ntmps14
    go_wp2_with fail
    refine HC.out.mono ?_
    rintro e w' ⟨rfl, hb⟩
    go_wp2_with fail
    go_ret
    exact ⟨rfl, hb⟩

theorem ordL_cmp (a b : List UInt8) : Lib.compareBytes a b = ordL (a.map fun x => (x.toNat : Int)) (b.map fun x => (x.toNat : Int)) := by
  induction a generalizing b with
  | nil => cases b <;> rfl
  | cons x a ih =>
    cases b with
    | nil => rfl
    | cons y b =>
      unfold Lib.compareBytes
      show _ = (if (x.toNat : Int) < y.toNat then (-1 : Int) else if (y.toNat : Int) < x.toNat then 1 else ordL (a.map _) (b.map _))
      rw [← ih b]
      have h1 : (x < y) ↔ ((x.toNat : Int) < y.toNat) := by rw [UInt8.lt_iff_toNat_lt]; omega
      have h2 : (y < x) ↔ ((y.toNat : Int) < x.toNat) := by rw [UInt8.lt_iff_toNat_lt]; omega
      by_cases e1 : x < y
      · rw [if_pos e1, if_pos (h1.1 e1)]
      · rw [if_neg e1, if_neg (fun h => e1 (h1.2 h))]
        by_cases e2 : y < x
        · rw [if_pos e2, if_pos (h2.1 e2)]
        · rw [if_neg e2, if_neg (fun h => e2 (h2.2 h))]

theorem lOrder_any (a b : ByteArray) (w : World) :
    Calls Tryd.prog 16 #[.string a, .string b] w fun e w' => e = .returned (.int .i64 (ordL (numS a) (numS b))) ∧ Below w.heap.size w w' := by
  have HC := Lib.hid (Tryd.strings_Compare a b w)
  have hr : ordL (numS a) (numS b) = Lib.compareBytes a.data.toList b.data.toList := (ordL_cmp _ _).symm
  rw [hr]
  generalize Lib.compareBytes a.data.toList b.data.toList = r at *
  go_enter Tryd.func16, Tryd.ntmps16
  go_wp2_with fail
  refine HC.out.mono ?_
  rintro e w1 ⟨rfl, hw⟩
  rw [hw]
  go_wp2_with fail
  go_ret
  exact ⟨rfl, Below.refl _ _⟩

set_option maxHeartbeats 1600000 in
set_option maxRecDepth 100000 in
/-- Common only draws. -/
theorem lCommon_draws (a b : ByteArray) (w : World) (ha : a.size ≤ 1000000) (hb : b.size ≤ 1000000) :
    Calls Tryd.prog 18 #[.string a, .string b] w fun e w' => e = .returned (.int .i64 (comL (numS a) (numS b) : Nat)) ∧ ∃ n, w' = w.drewN n := by
  have HXa := Lib.hid (index_s a)
  have HXb := Lib.hid (index_s b)
  have hle := comL_le (numS a) (numS b)
  rw [numS_length, numS_length] at hle
  have HAt := Lib.hid (comL_at (numS a) (numS b))
  have HSt := Lib.hid (comL_stop (numS a) (numS b))
  rw [numS_length, numS_length] at HSt
  obtain ⟨hla, hlb⟩ := hle
  generalize comL (numS a) (numS b) = c at *
  obtain ⟨m, hm⟩ : ∃ m : Nat, m = min a.size b.size := ⟨_, rfl⟩
  have hmin : min (a.size : Int) (b.size : Int) = (m : Int) := by omega
  have HM := Lib.hid hm
  clear hm
  go_enter Tryd.func18, Tryd.ntmps18
  go_wp2_with fail
  go_loopw [13] (fun i wr => ∃ k : Nat, k ≤ c ∧ i = .int .i64 k ∧ Hid (∃ n, wr = w.drewN n)) (fun i _ => c - (intOf i).toNat)
  case atStart => exact ⟨0, by omega, rfl, ⟨0, rfl⟩⟩
  case round =>
    obtain ⟨k, hk, rfl, HB⟩ := hrel
    have hk0 : (0 : Int) ≤ (k : Int) := by omega
    have hm2 := HM.out
    by_cases hlt : k < c
    · have hka : (k : Int) < (a.size : Int) := by omega
      have hkb : (k : Int) < (b.size : Int) := by omega
      have hkm : (k : Int) < (m : Int) := by omega
      have ixa := HXa.out k (by omega)
      have ixb := HXb.out k (by omega)
      rw [← HAt.out k hlt] at ixb
      generalize (numS a).getD k 0 = x at *
      clear hm2
      go_wp2_with fail
      go_quiet (fail)
      rename_i nq
      have HN : Hid (∃ n, wr.drewN nq = w.drewN n) := by
        obtain ⟨n, hn⟩ := HB.out
        exact ⟨_, by rw [hn, World.drewN_drewN]⟩
      generalize wr.drewN nq = wz at *
      go_wp2_with fail
      go_roundw
      case rel => exact ⟨k + 1, by omega, by go_num, HN⟩
      case measure => simp [intOf]; omega
    · have hkc : k = c := by omega
      subst hkc
      by_cases hkm : k < m
      · have hkmi : (k : Int) < (m : Int) := by omega
        have hka : (k : Int) < (a.size : Int) := by omega
        have hkb : (k : Int) < (b.size : Int) := by omega
        have hne := HSt.out (by omega) (by omega)
        have ixa := HXa.out k (by omega)
        have ixb := HXb.out k (by omega)
        generalize (numS a).getD k 0 = x at *
        generalize (numS b).getD k 0 = y at *
        have hxy : (x == y) = false := by rw [beq_eq_false_iff_ne]; exact hne
        have hxy2 : (x != y) = true := by simp [bne, hxy]
        clear hm2
        go_wp2_with fail
        go_quiet (fail)
        rename_i nq
        have HN : Hid (∃ n, wr.drewN nq = w.drewN n) := by
          obtain ⟨n, hn⟩ := HB.out
          exact ⟨_, by rw [hn, World.drewN_drewN]⟩
        generalize wr.drewN nq = wz at *
        go_wp2_with fail
        go_ret
        exact ⟨rfl, HN.out⟩
      · have hkmi : ¬ (k : Int) < (m : Int) := by omega
        have hkm3 : m = k := by omega
        have HB2 := HB
        clear hm2 hmin HM
        subst hkm3
        go_wp2_with fail
        go_ret
        exact ⟨rfl, HB2.out⟩

theorem lCommon_any (a b : ByteArray) (w : World) (ha : a.size ≤ 1000000) (hb : b.size ≤ 1000000) :
    Calls Tryd.prog 18 #[.string a, .string b] w fun e w' => e = .returned (.int .i64 (comL (numS a) (numS b) : Nat)) ∧ Below w.heap.size w w' :=
  (lCommon_draws a b w ha hb).mono fun _ _ ⟨he, n, hw⟩ => ⟨he, hw ▸ below_drewN (Below.refl _ _) n⟩
end Go.Proofs.YtogkabdampkbjaaDoor
