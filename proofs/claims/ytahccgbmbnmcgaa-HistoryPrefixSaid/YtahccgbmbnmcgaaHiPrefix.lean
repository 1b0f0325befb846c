/- HistoryPrefix, the walk. -/
import Derived.Test.YtahccgbmbnmcgaaHiMade
import Derived.Test.YtahccgbmbnmcgaaHiWorks
namespace Go.Proofs.Ytahccgbmbnmcgaa
open Go Go.RowKit

/-- What stands at the head of the loop: the list, and the slice that was read off it in the round before. -/
structure PSt (w W : World) (N b most m : Nat) (l : List Int) (p q : Option Addr) : Prop where
  one : One w W N b most m l p
  rd : RdI W q l
  ap : ∀ a, q = some a → a.block ≠ b ∧ a.block < W.heap.size ∧ ∀ a', p = some a' → a.block ≠ a'.block

theorem slice_none {w W : World} {N b most m : Nat} {l : List Int} {p : Option Addr} (h : PSt w W N b most m l p none) : l = [] := by
  cases l with
  | nil => rfl
  | cons x t => obtain ⟨g, o, h1, _⟩ := h.rd 0 x rfl; cases h1

theorem prefix_take {l l' : List Int} {m : Nat} (h : l' <+: l ∨ l <+: l') (h1 : m ≤ l.length) (h2 : m ≤ l'.length) : l'.take m = l.take m := by
  rcases h with ⟨t, rfl⟩ | ⟨t, rfl⟩
  · rw [List.take_append_of_le_length h2]
  · rw [List.take_append_of_le_length h1]

set_option maxHeartbeats 6400000 in
set_option maxRecDepth 100000 in
theorem prefix_any (lim : Nat) (hlim : lim ≤ 255) (a : Option Addr) (len cap : Nat) (xs : List (Nat × Nat)) (hlen : xs.length = len) (hcap : len ≤ cap) (hc63 : cap ≤ 9223372036854775807) (w : World) (hX : MovesAt w w.heap.size a xs) :
    Calls Try.prog 5 #[.int .u8 (lim : Nat), .slice a len cap] w fun e w' => e = .returned (.bool true) ∧ Below w.heap.size w w' := by
  obtain ⟨most, hmost⟩ : ∃ most, most = 1 + lim % 64 := ⟨_, rfl⟩
  have hm1 : most ≤ 64 := by omega
  obtain ⟨r, hr⟩ : ∃ r, r = lim % 64 := ⟨_, rfl⟩
  have hr2 : (lim : Int) % 64 = (r : Int) := by omega
  have hm2 : (1 : Int) + (r : Int) = (most : Int) := by omega
  have hr3 : r ≤ 63 := by omega
  clear hr hmost
  have hnew := newI most (by omega) w
  obtain ⟨n, hn⟩ : ∃ n, n = min len 150 := ⟨_, rfl⟩
  have hnl : n ≤ len := by omega
  have hn150 : n ≤ 150 := by omega
  have hmin : min (len : Int) 150 = (n : Int) := by omega
  have hncap : n ≤ cap := by omega
  have hn0 : (0 : Int) ≤ (n : Int) := by omega
  have hmax : max (n : Int) 0 = (n : Int) := by omega
  have HX := Lib.hid hX
  have HLEN := Lib.hid hlen
  have HW : Hid (∀ W, Calls Try.prog 10 #[] W fun e w' => e = .returned (.bool true) ∧ Below W.heap.size W w') := Lib.hid works7_any
  clear hX hlen hn
  go_enter Try.func5, Try.ntmps5
  go_wp2_with fail
  refine hnew.mono ?_
  rintro e w1 ⟨rfl, hL0, hb0, hs0⟩
  have HO : Hid (PSt w w1 w.heap.size w.heap.size most 0 [] none none) := Lib.hid ⟨⟨⟨0, hL0⟩, hb0, Nat.le_refl _, (fun a h => by cases h), Nat.le_refl _⟩, RdI.nil _ _, (fun a h => by cases h)⟩
  have hlw : w.heap.size < w1.heap.size := by omega
  clear hnew hL0 hb0 hs0
  go_wp2_with fail
  go_loopw [8, 9, 36] (fun sa sb sc wr => ∃ (i : Nat) (q : Option Addr) (c1 c2 m ln : Nat), i ≤ n ∧ sa = .slice q m c1 ∧ sb = .slice q ln c2 ∧ sc = .int .i64 i ∧ m ≤ ln ∧ ln ≤ c2 ∧ ln ≤ c1 ∧ ln ≤ 64 ∧ Hid (∃ (l : List Int) (p : Option Addr), l.length = ln ∧ PSt w wr w.heap.size w.heap.size most m l p q)) (fun _ _ sc _ => n - (intOf sc).toNat)
  case atStart => exact ⟨0, none, 0, 0, 0, 0, Nat.zero_le _, rfl, rfl, rfl, by omega, by omega, by omega, by omega, Lib.hid ⟨[], none, rfl, HO.out⟩⟩
  case round =>
    obtain ⟨i, q, c1, c2, m, ln, hi, rfl, rfl, rfl, hml, hc2, hc1, hl64, HT⟩ := hrel
    clear HO
    by_cases hlt : i < n
    · obtain ⟨⟨k, v⟩, hx⟩ : ∃ x, xs[i]? = some x := ⟨_, List.getElem?_eq_getElem (by rw [HLEN.out]; omega)⟩
      obtain ⟨⟨g, o, rfl, hg, e0, e1⟩, hk, hv⟩ := HX.out i _ hx
      dsimp only at e0 e1 hk hv
      obtain ⟨l, p, hll, hP⟩ := HT.out
      have e0' := (hP.one.low.cell (p := ⟨g, o + i * 2, none⟩) hg).trans e0
      have e1' := (hP.one.low.cell (p := ⟨g, o + i * 2 + 1, none⟩) hg).trans e1
      obtain ⟨X1, hX1⟩ : ∃ X1, X1 = wr.alloc (.cells #[.int .u8 k, .int .u16 v] 51) := ⟨_, rfl⟩
      have hbX : Below wr.heap.size wr X1 := by rw [hX1]; exact (Below.refl _ _).alloc (Nat.le_refl _) _
      have hXb : X1.heap[wr.heap.size]? = some (.cells #[.int .u8 k, .int .u16 v] 51 (0, 0)) := by rw [hX1]; exact heap_alloc_new _ _
      have hO1 := hP.one.below hbX
      have hmv := hO1.moved k v hv
      have f0 : X1.cell? ⟨wr.heap.size, 0, none⟩ = some (.int .u8 k) := by simp [World.cell?, hXb]
      have f1 : X1.cell? ⟨wr.heap.size, 1, none⟩ = some (.int .u16 v) := by simp [World.cell?, hXb]
      have hi0 : (0 : Int) ≤ (i : Int) := by omega
      have hi1 : (i : Int) < (n : Int) := by omega
      clear e0 e1 hx
      go_wp2_with fail
      rw [← hX1]
      refine hmv.mono ?_
      rintro e W2 ⟨rfl, p', m', l', hO2, hMv, ht, hh⟩
      have hel := hO2.elements
      have hbw : w.heap.size < wr.heap.size := by obtain ⟨cc, hL⟩ := hP.one.list; exact hL.lt
      have hpw : ∀ a', p = some a' → a'.block < wr.heap.size := fun a' ha => by obtain ⟨cc, hL⟩ := hP.one.list; exact hL.own ha
      have hX1s : X1.heap.size = wr.heap.size + 1 := by rw [hX1]; simp
      have hbox2 : W2.heap[wr.heap.size]? = X1.heap[wr.heap.size]? := ht.block _ (by omega) (by omega) (fun a' ha => by have := hpw a' ha; omega)
      have hrd2 : RdI W2 q l := (hP.rd.below hbX).kept fun a' ha hlt' => by
        obtain ⟨g1, g2, g3⟩ := hP.ap a' ha
        exact ht.block _ hlt' g1 (fun a'' ha'' => g3 a'' ha'')
      have hap2 : ∀ a', q = some a' → a'.block ≠ w.heap.size ∧ a'.block < W2.heap.size := fun a' ha => by
        obtain ⟨g1, g2, g3⟩ := hP.ap a' ha
        exact ⟨g1, by have := ht.size; omega⟩
      have hml' : m' ≤ l'.length := by obtain ⟨cc, hL⟩ := hO2.list; exact hL.ml
      have hll' : l'.length ≤ 64 := by obtain ⟨cc, hL⟩ := hO2.list; exact Nat.le_trans hL.ll hm1
      have hp2 : ∀ a', p' = some a' → a'.block < W2.heap.size := fun a' ha => by obtain ⟨cc, hL⟩ := hO2.list; exact hL.own ha
      have HP2 := Lib.hid (And.intro hrd2 (And.intro hO2 hp2))
      have HN : Hid (q = none → l = []) := Lib.hid fun hq => by subst hq; exact slice_none hP
      have hb2 : w.heap.size < W2.heap.size := by have := ht.size; omega
      clear hmv f0 f1 hO1 hO2 hP HT e0' e1' ht hh hpw hbX hrd2 hap2 hX1 hp2
      go_wp2_with fail
      refine hel.mono ?_
      rintro e W3 ⟨q', c', rfl, hc', HO3, HR3, HB3, hq0, hq'⟩
      have hb3 := HB3.out
      have hbox3 : W3.heap[wr.heap.size]? = some (.cells #[.int .u8 k, .int .u16 v] 51 (0, 0)) := (hb3.block _ (by have := (Array.getElem?_eq_some_iff.1 (hbox2.trans hXb)).1; exact this)).trans (hbox2.trans hXb)
      have f0 : W3.cell? ⟨wr.heap.size, 0, none⟩ = some (.int .u8 k) := by simp [World.cell?, hbox3]
      have f1 : W3.cell? ⟨wr.heap.size, 1, none⟩ = some (.int .u16 v) := by simp [World.cell?, hbox3]
      have hln := HO3.out.len0
      have hmk := HO3.out.marked0
      have HNX : Hid (∃ (l0 : List Int) (p0 : Option Addr), l0.length = l'.length ∧ ∀ j, PSt w (W3.drewN j) w.heap.size w.heap.size most m' l0 p0 q') := Lib.hid ⟨l', p', rfl, fun j => ⟨HO3.out.below (Below.drewN' j (Below.refl _ _)), HR3.out.drewN j, fun a' ha => by
        obtain ⟨g1, g2, -, -⟩ := hq' a' ha
        exact ⟨by omega, g2, fun a'' ha'' => by have := HP2.out.2.2 a'' ha''; omega⟩⟩⟩
      have hm'0 : ¬ (m' : Int) < 0 := by omega
      have hm'1 : ¬ (l'.length : Int) < (m' : Int) := by omega
      have hmc' : m' ≤ c' := by omega
      clear hel hbox2 hbox3 hXb
      by_cases hclr : k % 8 = 7 ∧ v % 4 = 0
      · rw [Mv, if_pos hclr] at hMv
        subst hMv
        obtain rfl : m' = 0 := by simpa using hml'
        have h7 : (((k : Int) % 8) == 7) = true := by simp; omega
        have h4 : (((v : Int) % 4) == 0) = true := by simp; omega
        have hE : Hid (∀ j c d, Calls Try.prog 29 #[.slice q' 0 c, .slice none 0 d] (W3.drewN j) fun e w' => e = .returned (.bool true) ∧ ∃ k, w' = (W3.drewN j).drewN k) := Lib.hid fun j c d => (RdI.nil _ _).same (RdI.nil _ _) rfl rfl (by decide) (by decide)
        go_wp2_with (first | (go_at_call 27; refine hln.mono ?_; rintro e w' ⟨rfl, rfl⟩) | (go_at_call 28; refine hmk.mono ?_; rintro e w' ⟨rfl, rfl⟩))
        go_quiet ((go_at_call 29; exact Calls.quiet_of (hE.out _ _ _)))
        have hmk2 := (HO3.out.below (Below.drewN' nq (Below.refl _ _))).marked0
        go_wp2_with (go_at_call 28; refine hmk2.mono ?_; rintro e w' ⟨rfl, rfl⟩)
        go_roundw
        case rel =>
          refine ⟨i + 1, q', c', c', 0, 0, by omega, rfl, rfl, by go_num, by omega, by omega, by omega, by omega, Lib.hid ?_⟩
          obtain ⟨l0, p0, h1, h2⟩ := HNX.out
          exact ⟨l0, p0, h1, h2 _⟩
        case measure => simp [intOf]; omega
      · rw [Mv, if_neg hclr] at hMv
        obtain ⟨L', hL'⟩ : ∃ L', L' = l'.length := ⟨_, rfl⟩
        have hE : Hid (∀ j M c d, M ≤ ln ∧ M ≤ L' → Calls Try.prog 29 #[.slice q' M c, .slice q M d] (W3.drewN j) fun e w' => e = .returned (.bool true) ∧ ∃ k, w' = (W3.drewN j).drewN k) := Lib.hid fun j M c d hM => by
          have hx := (HR3.out.take M).drewN j
          have hy := (((HP2.out.1).below hb3).take M).drewN j
          rw [prefix_take hMv.2 (by omega) (by omega)] at hx
          exact hx.same hy (by simp; omega) (by simp; omega) (by omega) (by omega)
        have h74 : ((((k : Int) % 8) == 7) && (((v : Int) % 4) == 0)) = false := by
          cases hA : (((k : Int) % 8) == 7) with
          | false => rfl
          | true =>
            rw [Bool.true_and, beq_eq_false_iff_ne]
            rw [beq_iff_eq] at hA
            exact fun h => hclr ⟨by omega, by omega⟩
        obtain ⟨sh, hsh⟩ : ∃ sh, sh = min ln L' := ⟨_, rfl⟩
        have hsh1 : min (ln : Int) (L' : Int) = (sh : Int) := by omega
        have hsh2 : sh ≤ ln ∧ sh ≤ L' := by omega
        have hmM : m ≤ L' := by rw [hL']; exact hMv.1
        have hd9 : ¬ (L' : Int) < (m : Int) := by omega
        have hs1 : sh ≤ c' := by omega
        have hs2 : sh ≤ c2 := by omega
        have hs3 : m ≤ c' := by omega
        have HFIN := Lib.hid (And.intro hml' (And.intro hll' hL'))
        rw [← hL'] at hln hm'1 hc' hml' hll' ⊢
        clear hL' hMv hsh
        by_cases h7 : (((k : Int) % 8) == 7) = true
        · rw [h7, Bool.true_and] at h74
          go_wp2_with (first | (go_at_call 27; refine hln.mono ?_; rintro e w' ⟨rfl, rfl⟩) | (go_at_call 28; refine hmk.mono ?_; rintro e w' ⟨rfl, rfl⟩))
          go_quiet ((go_at_call 29; exact Calls.quiet_of (hE.out _ _ _ _ (by first | exact hsh2 | exact ⟨hml, hmM⟩))))
          have hmk2 := (HO3.out.below (Below.drewN' nq (Below.refl _ _))).marked0
          go_wp2_with (go_at_call 28; refine hmk2.mono ?_; rintro e w' ⟨rfl, rfl⟩)
          go_roundw
          case rel =>
            refine ⟨i + 1, q', c', c', m', L', by omega, rfl, rfl, by go_num, by omega, by omega, by omega, by omega, Lib.hid ?_⟩
            obtain ⟨l0, p0, h1, h2⟩ := HNX.out
            exact ⟨l0, p0, h1.trans HFIN.out.2.2.symm, h2 _⟩
          case measure => simp [intOf]; omega
        · rw [Bool.not_eq_true] at h7
          clear h74
          go_wp2_with (first | (go_at_call 27; refine hln.mono ?_; rintro e w' ⟨rfl, rfl⟩) | (go_at_call 28; refine hmk.mono ?_; rintro e w' ⟨rfl, rfl⟩))
          go_quiet ((go_at_call 29; exact Calls.quiet_of (hE.out _ _ _ _ (by first | exact hsh2 | exact ⟨hml, hmM⟩))))
          have hmk2 := (HO3.out.below (Below.drewN' nq (Below.refl _ _))).marked0
          go_wp2_with (go_at_call 28; refine hmk2.mono ?_; rintro e w' ⟨rfl, rfl⟩)
          go_roundw
          case rel =>
            refine ⟨i + 1, q', c', c', m', L', by omega, rfl, rfl, by go_num, by omega, by omega, by omega, by omega, Lib.hid ?_⟩
            obtain ⟨l0, p0, h1, h2⟩ := HNX.out
            exact ⟨l0, p0, h1.trans HFIN.out.2.2.symm, h2 _⟩
          case measure => simp [intOf]; omega
    · obtain rfl : i = n := by omega
      have HLOW : Hid (Below w.heap.size w wr) := Lib.hid (by obtain ⟨l, p, h1, h2⟩ := HT.out; exact h2.one.low)
      clear HT
      go_wp2_with fail
      refine (HW.out _).mono ?_
      rintro e V3 ⟨rfl, hb9⟩
      go_wp2_with fail
      go_ret
      exact ⟨rfl, HLOW.out.trans (hb9.mono HLOW.out.size)⟩
end Go.Proofs.Ytahccgbmbnmcgaa
