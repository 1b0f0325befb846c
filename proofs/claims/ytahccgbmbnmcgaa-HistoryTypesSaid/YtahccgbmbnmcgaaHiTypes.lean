/- HistoryTypes, the walk. -/
import Derived.Test.YtahccgbmbnmcgaaHiNewQP
import Derived.Test.YtahccgbmbnmcgaaHiWorks
namespace Go.Proofs.Ytahccgbmbnmcgaa
open Go Go.RowKit

/-- At a there lie these numbers, in blocks below N. -/
def U16At (w : World) (N : Nat) (a : Option Addr) (xs : List Nat) : Prop :=
  ∀ j x, xs[j]? = some x → (∃ g o, a = some ⟨g, o, none⟩ ∧ g < N ∧ w.cell? ⟨g, o + j, none⟩ = some (.int .u16 (x : Nat))) ∧ x ≤ 65535

/-- A list of points that lies from N on. -/
structure OneP (w W : World) (N b lim : Nat) (l : List (Int × Int)) : Prop where
  list : ∃ p c, HLP W b p c lim 0 l ∧ ∀ a, p = some a → N ≤ a.block
  low : Below N w W
  nb : N ≤ b
  nw : N ≤ w.heap.size

section
variable {w W W' : World} {N b lim : Nat} {l : List (Int × Int)}
theorem OneP.below (h : OneP w W N b lim l) (hb : Below W.heap.size W W') : OneP w W' N b lim l := by
  obtain ⟨p, c, hL, hp⟩ := h.list
  exact ⟨⟨p, c, hL.below hb, hp⟩, h.low.trans (hb.mono (Nat.le_trans h.nw h.low.size)), h.nb, h.nw⟩
theorem OneP.add (h : OneP w W N b lim l) (hl : l.length < lim) (x : Int × Int) : Calls Try.prog 38 #[.pointer (some ⟨b, 0, none⟩), .agg #[.int .i64 x.1, .int .i64 x.2]] W fun e w' => e = .returned (.int .i64 0) ∧ Hid (OneP w w' N b lim (l ++ [x])) := by
  have h0 := h
  obtain ⟨p, c, hL, hp⟩ := h.list
  refine (addP hL hl x).mono fun e w' ⟨he, p', c', g1, ht, hh⟩ => ⟨he, Lib.hid ⟨⟨p', c', g1, fun a ha => ?_⟩, ?_, h0.nb, h0.nw⟩⟩
  · rcases hh a ha with ⟨a0, h1, h2⟩ | h1
    · have := hp a0 h1; omega
    · have := h0.low.size; have := h0.nw; omega
  · exact ⟨ht.os.trans h0.low.os, ht.tape.trans h0.low.tape, ht.output.trans h0.low.output, Nat.le_trans h0.low.size ht.size, fun k hk => (ht.block k (by have := h0.low.size; have := h0.nw; omega) (by have := h0.nb; omega) (fun a ha => by have := hp a ha; omega)).trans (h0.low.block k hk)⟩
theorem OneP.addFull (h : OneP w W N b lim l) (hl : l.length = lim) (x : Int × Int) : Calls Try.prog 38 #[.pointer (some ⟨b, 0, none⟩), .agg #[.int .i64 x.1, .int .i64 x.2]] W fun e w' => e = .returned (.int .i64 4) ∧ Below W.heap.size W w' := by
  obtain ⟨p, c, hL, hp⟩ := h.list
  exact addFullP hL hl x
theorem OneP.at (h : OneP w W N b lim l) (j : Nat) (x : Int × Int) (hx : l[j]? = some x) : Calls Try.prog 39 #[.pointer (some ⟨b, 0, none⟩), .int .i64 j] W fun e w' => e = .returned (.tuple #[.agg #[.int .i64 x.1, .int .i64 x.2], .int .i64 0]) ∧ Below W.heap.size W w' := by
  obtain ⟨p, c, hL, hp⟩ := h.list
  exact atP hL j x hx
end

/-- The points of the law. -/
def pts (xs : List Nat) (k : Nat) : List (Int × Int) := (List.range k).map fun (i : Nat) => ((i : Int), ((xs.getD i 0 : Nat) : Int))
theorem pts_length (xs : List Nat) (k : Nat) : (pts xs k).length = k := by simp [pts]
theorem pts_succ (xs : List Nat) (k : Nat) : pts xs (k + 1) = pts xs k ++ [((k : Int), ((xs.getD k 0 : Nat) : Int))] := by simp [pts, List.range_succ]
theorem pts_at (xs : List Nat) {i k : Nat} (h : i < k) : (pts xs k)[i]? = some ((i : Int), ((xs.getD i 0 : Nat) : Int)) := by unfold pts; rw [List.getElem?_map, List.getElem?_range h]; rfl

/-- A point is itself. -/
theorem pt_neq (x y : Int) (w : World) : (binOp .neq 72 (.agg #[.int .i64 x, .int .i64 y]) (.agg #[.int .i64 x, .int .i64 y])).run Try.prog w = .ok (.bool false) w := by
  rw [run_neq_struct, run_equalIn_agg _ _ _ _ _ (by kernel_rfl) (by kernel_rfl)]
  simp [go_sem, part, Try.underlying72, Try.underlying3]

set_option maxHeartbeats 6400000 in
set_option maxRecDepth 100000 in
theorem types_any (a : Option Addr) (len cap : Nat) (xs : List Nat) (hlen : xs.length = len) (hcap : len ≤ cap) (hc63 : cap ≤ 9223372036854775807) (far : Nat) (hfar : far ≤ 65535) (w : World) (hX : U16At w w.heap.size a xs) :
    Calls Try.prog 9 #[.slice a len cap, .int .u16 (far : Nat)] w fun e w' => e = .returned (.bool true) ∧ Below w.heap.size w w' := by
  obtain ⟨n, hn⟩ : ∃ n, n = min len 60 := ⟨_, rfl⟩
  have hnl : n ≤ len := by omega
  have hn60 : n ≤ 60 := by omega
  have hmin : min (len : Int) 60 = (n : Int) := by omega
  have hncap : n ≤ cap := by omega
  have hn0 : (0 : Int) ≤ (n : Int) := by omega
  have hmax : max (n : Int) 0 = (n : Int) := by omega
  have HX := Lib.hid (And.intro hX hlen)
  have HW : Hid (∀ W, Calls Try.prog 10 #[] W fun e w' => e = .returned (.bool true) ∧ Below W.heap.size W w') := Lib.hid works7_any
  clear hX hlen hn
  go_enter Try.func9, Try.ntmps9
  go_wp2_with fail
  obtain ⟨W1, hW1⟩ : ∃ W1, W1 = w.alloc (.cells #[.int .i64 (-1 - (far : Int)), .int .i64 (100001 + (far : Int)), .int .i64 (-9223372036854775808), .int .i64 9223372036854775807] 3) := ⟨_, rfl⟩
  have hb1 : Below w.heap.size w W1 := by rw [hW1]; exact (Below.refl _ _).alloc (Nat.le_refl _) _
  have hs1 : W1.heap.size = w.heap.size + 1 := by rw [hW1]; simp
  have hc1 : W1.heap[w.heap.size]? = some (.cells #[.int .i64 (-1 - (far : Int)), .int .i64 (100001 + (far : Int)), .int .i64 (-9223372036854775808), .int .i64 9223372036854775807] 3 (0, 0)) := by rw [hW1]; exact heap_alloc_new _ _
  have HC : Hid (∀ i, i < 4 → ∃ z : Int, W1.cell? ⟨w.heap.size, i, none⟩ = some (.int .i64 z) ∧ (z < 0 ∨ 100000 < z)) := Lib.hid fun i hi => by
    have h4 : i = 0 ∨ i = 1 ∨ i = 2 ∨ i = 3 := by omega
    rcases h4 with rfl | rfl | rfl | rfl
    · exact ⟨_, by simp only [World.cell?, hc1]; rfl, .inl (by omega)⟩
    · exact ⟨_, by simp only [World.cell?, hc1]; rfl, .inr (by omega)⟩
    · exact ⟨_, by simp only [World.cell?, hc1]; rfl, .inl (by omega)⟩
    · exact ⟨_, by simp only [World.cell?, hc1]; rfl, .inr (by omega)⟩
  have hnew := newP n (by omega) W1
  obtain ⟨B, hB⟩ : ∃ B, B = W1.heap.size := ⟨_, rfl⟩
  have HB1 : Hid (Below w.heap.size w W1 ∧ B = w.heap.size + 1 ∧ W1.heap.size = B) := Lib.hid ⟨hb1, by omega, hB.symm⟩
  rw [← hB] at hnew
  rw [← hW1]
  clear hW1 hc1 hb1 hs1 hB
  go_loopw [26] (fun sc wr => ∃ (i : Nat), i ≤ 4 ∧ sc = .int .i64 i ∧ wr = W1) (fun sc _ => 4 - (intOf sc).toNat)
  case atStart => exact ⟨0, Nat.zero_le _, rfl, rfl⟩
  case round =>
    obtain ⟨i, hi, rfl, rfl⟩ := hrel
    by_cases hlt : i < 4
    · obtain ⟨z, hz, hbad⟩ := HC.out i hlt
      have hnb := newBadP z hbad wr
      have hi0 : (0 : Int) ≤ (i : Int) := by omega
      have hi1 : (i : Int) < 4 := by omega
      clear hbad hnew
      go_wp2_with (go_at_call 37; refine hnb.mono ?_; rintro e w' ⟨rfl, rfl⟩)
      go_roundw
      case rel => exact ⟨i + 1, by omega, by go_num, by first | rfl | trivial⟩
      case measure => simp [intOf]; omega
    · obtain rfl : i = 4 := by omega
      go_wp2_with fail
      refine hnew.mono ?_
      rintro e w2 ⟨rfl, hL0, hb2, hs2⟩
      have HO : Hid (OneP w w2 w.heap.size B n (pts xs 0)) := Lib.hid ⟨⟨none, 0, hL0, (fun a h => by cases h)⟩, HB1.out.1.trans (hb2.mono (by have := HB1.out.2; omega)), by have := HB1.out.2; omega, Nat.le_refl _⟩
      clear hnew hL0 hb2 hs2 HC
      go_wp2_with fail
      go_loopw [57] (fun sc wq => ∃ (j : Nat), j ≤ n ∧ sc = .int .i64 j ∧ Hid (OneP w wq w.heap.size B n (pts xs j))) (fun sc _ => n - (intOf sc).toNat)
      case atStart => exact ⟨0, Nat.zero_le _, rfl, HO⟩
      case round =>
        obtain ⟨j, hj, rfl, HT⟩ := hrel
        clear HO
        by_cases hlt2 : j < n
        · obtain ⟨v, hx⟩ : ∃ v, xs[j]? = some v := ⟨_, List.getElem?_eq_getElem (by rw [HX.out.2]; omega)⟩
          obtain ⟨⟨g, o, rfl, hg, e0⟩, hv⟩ := HX.out.1 j _ hx
          have e0' := (HT.out.low.cell (p := ⟨g, o + j, none⟩) hg).trans e0
          have hadd := HT.out.add (by rw [pts_length]; omega) ((j : Int), (v : Int))
          have hps : pts xs j ++ [((j : Int), (v : Int))] = pts xs (j + 1) := by rw [pts_succ, List.getD_eq_getElem?_getD, hx]; rfl
          rw [hps] at hadd
          have hi0 : (0 : Int) ≤ (j : Int) := by omega
          have hi1 : (j : Int) < (n : Int) := by omega
          clear e0 hx HT hps
          go_wp2_with fail
          refine hadd.mono ?_
          rintro e V1 ⟨rfl, HN⟩
          clear hadd e0'
          go_wp2_with fail
          go_roundw
          case rel => exact ⟨j + 1, by omega, by go_num, HN⟩
          case measure => simp [intOf]; omega
        · obtain rfl : j = n := by omega
          have HO2 := HT
          clear HT
          go_wp2_with fail
          go_loopw [72] (fun sc wq => ∃ (i : Nat), i ≤ j ∧ sc = .int .i64 i ∧ Hid (OneP w wq w.heap.size B j (pts xs j))) (fun sc _ => j - (intOf sc).toNat)
          case atStart => exact ⟨0, Nat.zero_le _, rfl, HO2⟩
          case round =>
            obtain ⟨s, hs, rfl, HT⟩ := hrel
            clear HO2
            by_cases hlt3 : s < j
            · obtain ⟨v, hx⟩ : ∃ v, xs[s]? = some v := ⟨_, List.getElem?_eq_getElem (by rw [HX.out.2]; omega)⟩
              obtain ⟨⟨g, o, rfl, hg, e0⟩, hv⟩ := HX.out.1 s _ hx
              have e0' := (HT.out.low.cell (p := ⟨g, o + s, none⟩) hg).trans e0
              have hat := HT.out.at s ((s : Int), (v : Int)) (by rw [pts_at xs hlt3, List.getD_eq_getElem?_getD, hx]; rfl)
              have hi0 : (0 : Int) ≤ (s : Int) := by omega
              have hi1 : (s : Int) < (j : Int) := by omega
              have hpn := fun x y w => pt_neq x y w
              have HT1 := HT
              clear e0 hx HT
              go_wp2_with fail
              refine hat.mono ?_
              rintro e V1 ⟨rfl, hb⟩
              have HT2 := Lib.hid (HT1.out.below hb)
              obtain ⟨V2, hV2⟩ : ∃ V2, V2 = V1.alloc (.cells #[.int .i64 s, .int .i64 v] 72) := ⟨_, rfl⟩
              have hc2 : V2.heap[V1.heap.size]? = some (.cells #[.int .i64 s, .int .i64 v] 72 (0, 0)) := by rw [hV2]; exact heap_alloc_new _ _
              have k0 : V2.cell? ⟨V1.heap.size, 0, none⟩ = some (.int .i64 s) := by simp [World.cell?, hc2]
              have k1 : V2.cell? ⟨V1.heap.size, 1, none⟩ = some (.int .i64 v) := by simp [World.cell?, hc2]
              have HN : Hid (OneP w V2 w.heap.size B j (pts xs j)) := Lib.hid (HT2.out.below (by rw [hV2]; exact (Below.refl _ _).alloc (Nat.le_refl _) _))
              clear hat hb HT1 HT2 hc2 e0'
              rw [hV2] at HN
              go_wp2_with fail
              go_roundw
              case rel => exact ⟨s + 1, by omega, by go_num, HN⟩
              case measure => simp [intOf]; omega
            · obtain rfl : s = j := by omega
              have HT3 := HT
              have hnb := fun W => newP 100000 (by omega) W
              have hx0 := fun W (h : Below wr.heap.size wr W) => (HT3.out.below h).addFull (pts_length xs s) (0, 0)
              clear HT
              go_wp2_with fail
              refine (hnb _).mono ?_
              rintro e V1 ⟨rfl, hL9, hb9, hs9⟩
              have hadd := hx0 V1 hb9
              have HB9 := Lib.hid (And.intro hL9 hb9)
              obtain ⟨Z, hZ⟩ : ∃ Z, Z = wr.heap.size := ⟨_, rfl⟩
              clear hnb hx0 hL9 hb9 hs9
              go_wp2_with fail
              refine hadd.mono ?_
              rintro e V2 ⟨rfl, hb2⟩
              have hL2 := HB9.out.1.below hb2
              have hadd2 := addP hL2 (by decide) (0, 0)
              have HT4 : Hid (Below wr.heap.size wr V2) := Lib.hid (HB9.out.2.trans (hb2.mono HB9.out.2.size))
              clear hadd hL2 hb2
              go_wp2_with fail
              refine hadd2.mono ?_
              rintro e V3 ⟨rfl, p3, c3, -, ht3, -⟩
              have HLOW : Hid (Below w.heap.size w V3) := Lib.hid (by
                have h4 : Below wr.heap.size wr V3 := ⟨ht3.os.trans HT4.out.os, ht3.tape.trans HT4.out.tape, ht3.output.trans HT4.out.output, Nat.le_trans HT4.out.size ht3.size, fun k hk => (ht3.block k (by have := HT4.out.size; omega) (by omega) (fun a h => by cases h)).trans (HT4.out.block k hk)⟩
                exact HT3.out.low.trans (h4.mono HT3.out.low.size))
              clear hadd2 ht3 HT4 HB9
              go_wp2_with fail
              refine (HW.out _).mono ?_
              rintro e V4 ⟨rfl, hb⟩
              have HLOW2 := HLOW.out.trans (hb.mono HLOW.out.size)
              clear HLOW hb
              go_wp2_with fail
              go_ret
              exact ⟨rfl, HLOW2⟩
end Go.Proofs.Ytahccgbmbnmcgaa
