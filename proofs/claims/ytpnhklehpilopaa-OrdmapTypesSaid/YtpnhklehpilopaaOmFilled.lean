/- filled: the calls of a list, made to an ordered map and to a Go map: both agree. -/
import Derived.Test.YtpnhklehpilopaaOmAgree
import Derived.Test.YtpnhklehpilopaaOmSeqC
import Derived.Outline
namespace Go.Proofs.Ytpnhklehpilopaa
open Go Go.RowKit Go.Maps

theorem lawInt : Keyed Try.prog 3 := int_keyed Try.underlying3
theorem zeroInt (w : World) : (zeroValue 3).run Try.prog w = .ok (.int .i64 0) w := by kernel_rfl

/-- The slice of calls that came in. -/
def CallsAt (w : World) (N : Nat) (a : Option Addr) (xs : List (Bool × Int × Int)) : Prop :=
  ∀ j x, xs[j]? = some x → (∃ g o, a = some ⟨g, o, none⟩ ∧ g < N ∧ w.cell? ⟨g, o + j * 3, none⟩ = some (.bool x.1) ∧ w.cell? ⟨g, o + j * 3 + 1, none⟩ = some (.int .i16 x.2.1) ∧ w.cell? ⟨g, o + j * 3 + 2, none⟩ = some (.int .i16 x.2.2)) ∧
    -32768 ≤ x.2.1 ∧ x.2.1 ≤ 32767 ∧ -32768 ≤ x.2.2 ∧ x.2.2 ≤ 32767

theorem CallsAt.below {w w' : World} {N : Nat} {a : Option Addr} {xs : List (Bool × Int × Int)} (h : CallsAt w N a xs) (hb : Below N w w') : CallsAt w' N a xs := fun j x hx => by
  obtain ⟨⟨g, o, ha, hg, h1, h2, h3⟩, hr⟩ := h j x hx
  exact ⟨⟨g, o, ha, hg, (hb.cell (p := ⟨g, o + j * 3, none⟩) hg).trans h1, (hb.cell (p := ⟨g, o + j * 3 + 1, none⟩) hg).trans h2, (hb.cell (p := ⟨g, o + j * 3 + 2, none⟩) hg).trans h3⟩, hr⟩

/-- What both maps are, after some calls: block B is the ordered map, block B + 1 the Go map. -/
def Both (W : World) (B k : Nat) : Prop := ∃ p c l D, MapC W B B p c l ∧ W.ownsMap Try.prog 3 (plainElem Try.prog 3) (B + 1) k D ∧ Ag D l ∧ l.length ≤ k ∧ (∀ x ∈ l, -32768 ≤ x.1 ∧ x.1 ≤ 32767) ∧ (∀ a, p = some a → B + 2 ≤ a.block)

theorem wf_16 {k : Int} (h0 : -32768 ≤ k) (h1 : k ≤ 32767) : (Lit.int .i64 k).wf = true := WalkArith.wf_i64 (by omega)

set_option maxHeartbeats 4000000 in
set_option maxRecDepth 100000 in
theorem filled_any (a : Option Addr) (len cap : Nat) (xs : List (Bool × Int × Int)) (hlen : xs.length = len) (hcap : len ≤ cap) (hc63 : cap ≤ 9223372036854775807) (w : World) (hX : CallsAt w w.heap.size a xs) :
    Calls Try.prog 27 #[.slice a len cap] w fun e w' => e = .returned (.tuple #[.pointer (some ⟨w.heap.size, 0, none⟩), .map (some (w.heap.size + 1)), .bool true]) ∧ Both w' w.heap.size 100 ∧ Below w.heap.size w w' := by
  obtain ⟨m, hm⟩ : ∃ m : Nat, m = min len 100 := ⟨_, rfl⟩
  have hmin : min (len : Int) 100 = (m : Int) := by omega
  have hml : m ≤ len := by omega
  have hm100 : m ≤ 100 := by omega
  have hmc : (m : Int) ≤ (cap : Int) := by omega
  have hm0 : (0 : Int) ≤ (m : Int) := by omega
  have HX := Lib.hid hX
  have HL := Lib.hid hlen
  have hmm := @run_makeMap Try.prog
  clear hX hlen hm
  go_enter Try.func27, Try.ntmps27
  go_wp2_with fail
  refine (newC _).mono ?_
  rintro e w1 ⟨rfl, hM, hb, hs⟩
  have hA1 : Below w1.heap.size w1 (w1.alloc (.map #[] 0)) := (Below.refl _ _).alloc (Nat.le_refl _) _
  have HI : Hid (Both (w1.alloc (.map #[] 0)) w.heap.size 0) := by
    refine ⟨none, 0, [], .map [], hM.below hA1, ?_, ag_nil, Nat.le_refl _, fun x hx => by simp at hx, fun a ha => by cases ha⟩
    rw [← hs]
    exact World.ownsMap_made _ _ _ _
  have HB1 : Hid (Below w.heap.size w (w1.alloc (.map #[] 0))) := hb.trans (hA1.mono (by omega))
  clear hM hb hA1
  go_wp2
  clear hs
  go_loopw [26] (fun i wr => ∃ j : Nat, j ≤ m ∧ i = .int .i64 j ∧ Hid (Both wr w.heap.size j) ∧ Hid (Below w.heap.size w wr)) (fun i _ => m - (intOf i).toNat)
  case atStart => exact ⟨0, Nat.zero_le _, rfl, HI, HB1⟩
  case round =>
    obtain ⟨j, hj, rfl, HBo, HBw⟩ := hrel
    by_cases hlt : j < m
    · obtain ⟨x, hx⟩ : ∃ x, xs[j]? = some x := ⟨_, List.getElem?_eq_getElem (by rw [HL.out]; omega)⟩
      obtain ⟨d, kk, vv⟩ := x
      obtain ⟨⟨g, o, ha, hg, h1, h2, h3⟩, hk0, hk1, hv0, hv1⟩ := (HX.out.below HBw.out) j _ hx
      dsimp only at h1 h2 h3 hk0 hk1 hv0 hv1
      subst ha
      obtain ⟨p, c, l, D, hM, hown, hag, hll, hrg, hpb⟩ := HBo.out
      have hA : Below wr.heap.size wr (wr.alloc (.cells #[.bool d, .int .i16 kk, .int .i16 vv] 66)) := (Below.refl _ _).alloc (Nat.le_refl _) _
      have HPRE := Lib.hid (And.intro hM (And.intro hown (And.intro hag (And.intro hll (And.intro hrg hpb)))))
      clear hM hown hag hll hrg hpb HBo hx
      go_wp2
      go_quiet (fail)
      have hb3 : Below wr.heap.size wr ((wr.alloc (.cells #[.bool d, .int .i16 kk, .int .i16 vv] 66)).drewN nq) := Below.drewN' nq hA
      have hx3 : ((wr.alloc (.cells #[.bool d, .int .i16 kk, .int .i16 vv] 66)).drewN nq).heap[wr.heap.size]? = some (.cells #[.bool d, .int .i16 kk, .int .i16 vv] 66 (0, 0)) := heap_alloc_new wr _
      have hs3 : ((wr.alloc (.cells #[.bool d, .int .i16 kk, .int .i16 vv] 66)).drewN nq).heap.size = wr.heap.size + 1 := by show (wr.alloc _).heap.size = _; simp
      generalize (wr.alloc (.cells #[.bool d, .int .i16 kk, .int .i16 vv] 66)).drewN nq = W3 at *
      obtain ⟨hM, hown, hag, hll, hrg, hpb⟩ := HPRE.out
      have hM3 := hM.below hb3
      have hown3 : W3.ownsMap Try.prog 3 (plainElem Try.prog 3) (w.heap.size + 1) j D := ownsMap_same hown (hb3.block _ (ownsMap_lt hown))
      have hmlt := ownsMap_lt hown
      have hblt := hM.lt
      have hown' : ∀ a, p = some a → a.block < wr.heap.size := fun a ha => (hM.own ha).2
      have hdc : W3.cell? ⟨wr.heap.size, 0, none⟩ = some (.bool d) := by simp [World.cell?, hx3]
      have HKEY := Lib.hid (keyOf_int_mk Try.underlying3 (wf_16 hk0 hk1))
      have hbw := HBw.out.size
      have HOWN3 := Lib.hid hown3
      have HDEL := Lib.hid (deleteC hM3 (by omega) kk)
      have HSET := Lib.hid (setC hM3 (by omega) kk vv (by omega))
      have HF := Lib.hid (And.intro hM (And.intro hown (And.intro hag (And.intro hll (And.intro hrg (And.intro hpb (And.intro hM3 (And.intro hmlt (And.intro hblt (And.intro hown' (And.intro hb3 hs3)))))))))))
      clear hM hown hag hll hrg hpb hM3 hown3 hmlt hblt hown' hb3 hx3 hs3 hA HPRE h1 h2 h3
      cases d with
      | true =>
        go_wp2_with (at_lookup; refine wpList_lookup_own_ok_int _ rfl _ _ 47 rfl 3 3 .i64 lawInt Try.underlying47 Try.underlying3 (zeroInt _) (w.heap.size + 1) j D rfl HOWN3.out _ _ rfl HKEY.out ?_; intro cc hat hwc)
        have hcc : (kGet l kk).getD 0 = cc := by
          have := HF.out.2.2.1.at' kk
          rw [show D.atKey (kl kk) (dl 0) = dl cc from hat] at this
          exact (dl_inj this).symm
        have hdel := HDEL.out
        rw [hcc, ← HF.out.2.2.1.has kk] at hdel
        generalize hhb : Maps.has D (kl kk) = hb at *
        have HHB := Lib.hid hhb
        clear hcc hat hhb
        refine hdel.mono ?_
        rintro e W5 ⟨rfl, p', c', hM5, hT5, hH5⟩
        obtain ⟨hM, hown, hag, hll, hrg, hpb, hM3, hmlt, hblt, hown', hb3, hs3⟩ := HF.out
        have hown5 : W5.ownsMap Try.prog 3 (plainElem Try.prog 3) (w.heap.size + 1) j D := ownsMap_same HOWN3.out (hT5.block _ (by omega) (by omega) (fun a ha => by have := hpb a ha; omega))
        have HOWN5 := Lib.hid hown5
        have HM5 := Lib.hid (And.intro hM5 (And.intro hT5 hH5))
        clear hM hown hag hll hrg hpb hM3 hmlt hblt hown' hb3 hs3 hown5 hM5 hT5 hH5 hdel
        go_wp2_with (at_delete; refine wpList_delete_own _ rfl _ _ 47 3 rfl 3 lawInt Try.underlying47 _ (w.heap.size + 1) j D rfl HOWN5.out _ _ rfl HKEY.out ?_; intro w6 hown6 hturn6)
        go_roundw
        case rel =>
          obtain ⟨hM, hown, hag, hll, hrg, hpb, hM3, hmlt, hblt, hown', hb3, hs3⟩ := HF.out
          obtain ⟨hM5, hT5, hH5⟩ := HM5.out
          have hp5 : ∀ a, p' = some a → w.heap.size + 2 ≤ a.block := fun a ha => by
            rcases hH5 a ha with ⟨a0, h0, h2⟩ | h0
            · rw [← h2]; exact hpb a0 h0
            · omega
          have hb35 : Below w.heap.size wr W5 := (hb3.mono (by omega)).trans (hT5.below (Nat.le_refl _) (fun a ha => by have := hpb a ha; omega) (by omega))
          have hs5 := hT5.size
          refine ⟨j + 1, by omega, by simp, ⟨p', c', kDel ltI l kk, D.del (kl kk), ?_, ownsMap_more hown6 (by omega), hag.del (hown.tidy lawInt) hM.srt kk, ?_, fun x hx => hrg x (mem_del hx), hp5⟩, (HBw.out.trans hb35).grown hturn6.grown (by omega) (fun k e => by cases e; omega)⟩
          · exact hM5.same hturn6.grown.size (hturn6.grown.block _ hM5.lt (by simp)) (fun a ha => hturn6.grown.block _ (hM5.own ha).2 (by have := hp5 a ha; intro e; injection e with e; omega))
          · have := len_del ordI hM.srt kk; split at this <;> omega
        case measure => simp [intOf]; omega
      | false =>
        go_wp2_with (at_lookup; refine wpList_lookup_own_ok_int _ rfl _ _ 47 rfl 3 3 .i64 lawInt Try.underlying47 Try.underlying3 (zeroInt _) (w.heap.size + 1) j D rfl HOWN3.out _ _ rfl HKEY.out ?_; intro cc hat hwc)
        have hcc : (kGet l kk).getD 0 = cc := by
          have := HF.out.2.2.1.at' kk
          rw [show D.atKey (kl kk) (dl 0) = dl cc from hat] at this
          exact (dl_inj this).symm
        have hdel := HSET.out
        rw [hcc, ← HF.out.2.2.1.has kk] at hdel
        generalize hhb : Maps.has D (kl kk) = hb at *
        have HHB := Lib.hid hhb
        clear hcc hat hhb
        refine hdel.mono ?_
        rintro e W5 ⟨rfl, p', c', hM5, hT5, hH5⟩
        obtain ⟨hM, hown, hag, hll, hrg, hpb, hM3, hmlt, hblt, hown', hb3, hs3⟩ := HF.out
        have hown5 : W5.ownsMap Try.prog 3 (plainElem Try.prog 3) (w.heap.size + 1) j D := ownsMap_same HOWN3.out (hT5.block _ (by omega) (by omega) (fun a ha => by have := hpb a ha; omega))
        have HOWN5 := Lib.hid hown5
        have HM5 := Lib.hid (And.intro hM5 (And.intro hT5 hH5))
        clear hM hown hag hll hrg hpb hM3 hmlt hblt hown' hb3 hs3 hown5 hM5 hT5 hH5 hdel
        go_wp2_with (at_mapUpdate; refine wpList_mapUpdate_own _ rfl _ _ _ 47 rfl 3 3 lawInt Try.underlying47 _ (w.heap.size + 1) j D rfl HOWN5.out (by unfold maxLen; omega) _ _ _ rfl rfl HKEY.out _ [] (plainElem_int Try.underlying3 (wf_16 hv0 hv1)) ?_; intro w6 hown6 hgrow6)
        go_roundw
        case rel =>
          obtain ⟨hM, hown, hag, hll, hrg, hpb, hM3, hmlt, hblt, hown', hb3, hs3⟩ := HF.out
          obtain ⟨hM5, hT5, hH5⟩ := HM5.out
          have hp5 : ∀ a, p' = some a → w.heap.size + 2 ≤ a.block := fun a ha => by
            rcases hH5 a ha with ⟨a0, h0, h2⟩ | h0
            · rw [← h2]; exact hpb a0 h0
            · omega
          have hb35 : Below w.heap.size wr W5 := (hb3.mono (by omega)).trans (hT5.below (Nat.le_refl _) (fun a ha => by have := hpb a ha; omega) (by omega))
          have hs5 := hT5.size
          refine ⟨j + 1, by omega, by simp, ⟨p', c', kSet ltI l kk vv, D.put (kl kk) (dl vv), ?_, hown6, hag.put (hown.tidy lawInt) hM.srt (lawInt.key HKEY.out) vv, ?_, ?_, hp5⟩, (HBw.out.trans hb35).grown hgrow6 (by omega) (fun k e => by cases e; omega)⟩
          · exact hM5.same hgrow6.size (hgrow6.block _ hM5.lt (by simp)) (fun a ha => hgrow6.block _ (hM5.own ha).2 (by have := hp5 a ha; intro e; injection e with e; omega))
          · have := len_set (lt := ltI) l kk vv; split at this <;> omega
          · intro x hx
            rcases mem_set hx with rfl | hx
            · exact ⟨hk0, hk1⟩
            · exact hrg x hx
        case measure => simp [intOf]; omega
    · obtain rfl : j = m := by omega
      go_wp2
      go_ret3
      obtain ⟨p, c, l, D, hM, hown, hag, hll, hrg, hpb⟩ := HBo.out
      exact ⟨rfl, ⟨p, c, l, D, hM, ownsMap_more hown (by omega), hag, by omega, hrg, hpb⟩, HBw.out⟩
end Go.Proofs.Ytpnhklehpilopaa
