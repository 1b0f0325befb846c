/- SlotsetUnion. -/
import Derived.Test.YtejkbanecbjdoaaSsKnown
namespace Go.Proofs.Ytejkbanecbjdoaa
open Go Go.RowKit

attribute [local go_sem] Oper.semAt_some

theorem BA.congr {W : World} {b n : Nat} {f g : Nat → Bool} (h : BA W b n f) (hf : ∀ k, k < n → f k = g k) : BA W b n g := by
  unfold BA at *
  rw [h]
  congr 2
  unfold rowB
  congr 1
  apply List.map_congr_left
  intro k hk
  rw [hf k (List.mem_range.1 hk)]

theorem makeB_run (n : Nat) (hn : n ≤ 34) (V : World) : (Instr.makeSlice 53 (.int .i64 (n : Nat)) (.int .i64 (n : Nat))).run Try.prog V = .ok (.slice (some ⟨V.heap.size, 0, none⟩) n n) (V.alloc (.cells (rowB n (fun _ => false)) 4)) := by
  obtain ⟨i0, hi, hz0, hz1, hz2⟩ := info_partsS infoB
  have h := run_make (P := Try.prog) V 53 4 i0 (.bool false) Try.underlying53 hi hz0 .i64 .i64 (n : Int) (n : Int) (by omega) (Int.le_refl _) (by rw [hz2]; omega) (by omega)
  rw [hz1, Int.toNat_natCast, Nat.mul_one] at h
  rw [h]
  congr 3
  apply Array.ext'
  apply List.ext_getElem
  · simp [rowB, madeCells]
  · intro i h1 h2
    simp [rowB] at h2
    simp [rowB, madeCells]
    show (#[Value.bool false])[i % 1]! = _
    simp [Nat.mod_one]

set_option maxHeartbeats 4000000 in
set_option maxRecDepth 100000 in
theorem union_any (size : Nat) (hsz : size < 256) (p : Option Addr) (len c : Nat) (xs : List Nat) (hlen : xs.length = len) (hcap : len ≤ c) (hc63 : c ≤ 9223372036854775807) (p2 : Option Addr) (len2 c2 : Nat) (ys : List Nat) (hlen2 : ys.length = len2) (hcap2 : len2 ≤ c2) (hc632 : c2 ≤ 9223372036854775807) (W : World) (hR : RdU W p xs) (hR2 : RdU W p2 ys) :
    Calls Try.prog 7 #[.int .u8 (size : Nat), .slice p len c, .slice p2 len2 c2] W fun e w' => e = .returned (.bool true) ∧ Below W.heap.size W w' := by
  have hw := works8_any W
  by_cases hl : 100 < len
  · have h200 : (100 : Int) < (len : Int) := by omega
    go_enter Try.func7, Try.ntmps7
    go_wp2_with fail
    refine hw.mono ?_
    rintro e W1 ⟨rfl, hb⟩
    go_wp2_with fail
    go_ret
    exact ⟨rfl, hb⟩
  have h200 : ¬ (100 : Int) < (len : Int) := by omega
  by_cases hl2 : 100 < len2
  · have h2002 : (100 : Int) < (len2 : Int) := by omega
    go_enter Try.func7, Try.ntmps7
    go_wp2_with fail
    refine hw.mono ?_
    rintro e W1 ⟨rfl, hb⟩
    go_wp2_with fail
    go_ret
    exact ⟨rfl, hb⟩
  have h2002 : ¬ (100 : Int) < (len2 : Int) := by omega
  obtain ⟨n, hn⟩ : ∃ n, n = 1 + size % 34 := ⟨_, rfl⟩
  have hn1 : 1 ≤ n := by omega
  have hn34 : n ≤ 34 := by omega
  have hfill := filled_any size hsz p len c xs hlen (by omega) W hR
  have hfill2 := fun W1 (hb : Below W.heap.size W W1) => filled_any size hsz p2 len2 c2 ys hlen2 (by omega) W1 (hR2.below hb)
  rw [← hn] at hfill hfill2
  have HFILL2 := Lib.hid hfill2
  clear hn hlen hcap hc63 hR hsz hlen2 hcap2 hc632 hR2 hw hfill2
  generalize fillF n xs = F at *
  generalize fillF n ys = G at *
  go_enter Try.func7, Try.ntmps7
  go_wp2_with fail
  refine hfill.mono ?_
  rintro e W1 ⟨rfl, hS, hB, hb⟩
  have hf2 := HFILL2.out W1 hb
  have HS := Lib.hid hS
  have HA := Lib.hid hB
  have HB := Lib.hid hb
  have hlt := hB.lt
  clear hS hB hb hfill hl h200 hl2 h2002 HFILL2
  go_wp2_with fail
  refine hf2.mono ?_
  rintro e W2 ⟨rfl, hT, hB2, hb2⟩
  have HT := Lib.hid hT
  have HA2 := Lib.hid hB2
  have HS2 := Lib.hid (HS.out.below hb2)
  have HA1 := Lib.hid (HA.out.below hb2)
  have HB2 := Lib.hid (HB.out.trans (hb2.mono HB.out.size))
  have hlt2 := hB2.lt
  clear hT hB2 hb2 hf2 HS HA HB
  go_wp2_with fail
  refine (unionS HS2.out HT.out).mono ?_
  rintro e W3 ⟨rfl, hs, ho⟩
  have HS := Lib.hid hs
  have HT3 := Lib.hid (HT.out.other ho (by omega))
  have HA3 := Lib.hid (HA1.out.other ho (by omega))
  have HG3 := Lib.hid (HA2.out.other ho (by omega))
  have HB3 := Lib.hid (HB2.out.trans (ho.below (Nat.le_refl _) HB2.out.size))
  clear hs ho HS2 HT HA2 HA1 HB2
  go_wp2_with fail
  have hmk := makeB_run n hn34
  have HX : Hid (BA ((W3.alloc (.cells (rowB n fun _ => false) 4)).alloc (.cells (rowB n fun _ => false) 4)).drew W3.heap.size n (fun _ => false) ∧ BA ((W3.alloc (.cells (rowB n fun _ => false) 4)).alloc (.cells (rowB n fun _ => false) 4)).drew (W3.heap.size + 1) n (fun _ => false) ∧
      Below W3.heap.size W3 ((W3.alloc (.cells (rowB n fun _ => false) 4)).alloc (.cells (rowB n fun _ => false) 4)).drew) := by
    refine Lib.hid ⟨?_, ?_, (((Below.refl _ _).alloc (Nat.le_refl _) _).alloc (by simp) _).drew⟩
    · exact (Below.heap_alloc _ _ _ (by simp)).trans (heap_alloc_new W3 _)
    · have := heap_alloc_new (W3.alloc (.cells (rowB n fun _ => false) 4)) (.cells (rowB n fun _ => false) 4)
      rwa [World.size_alloc] at this
  have hltS := HS.out.lt
  have hltT := HT3.out.lt
  have hltA := HA3.out.lt
  have hltG := HG3.out.lt
  have HLT := Lib.hid (And.intro hltS (And.intro hltT (And.intro hltA (And.intro hltG (And.intro hlt hlt2)))))
  clear hltS hltT hltA hltG hlt hlt2
  go_region
  all_goals clear hmk
  all_goals generalize ((W3.alloc (.cells (rowB n fun _ => false) 4)).alloc (.cells (rowB n fun _ => false) 4)).drew = WX at *
  · go_wp2_with fail
    go_loopw [13] (fun i wr => ∃ k : Nat, k ≤ n ∧ i = .int .i64 k ∧ Hid (BA wr (W3.heap.size) n (fun j => decide (j < k) && (F j || G j)) ∧ BA wr (W3.heap.size + 1) n (fun j => decide (j < k) && (F j && !G j)) ∧ Below W3.heap.size W3 wr)) (fun i _ => n - (intOf i).toNat)
    case atStart => exact ⟨0, Nat.zero_le _, rfl, Lib.hid ⟨HX.out.1.congr (fun j _ => by simp), HX.out.2.1.congr (fun j _ => by simp), HX.out.2.2⟩⟩
    case round =>
      obtain ⟨k, hk, rfl, HI⟩ := hrel
      clear HX
      by_cases hltk : k < n
      · have hcF := (HA3.out.below HI.out.2.2).cell hltk
        have hcG := (HG3.out.below HI.out.2.2).cell hltk
        have hcP := HI.out.1.cell hltk
        have hfP := HI.out.1.frozen k
        have hP2 := HI.out.1.set k (F k || G k)
        have hQ2 : BA (wr.setCell ⟨W3.heap.size, k, none⟩ (.bool (F k || G k))) (W3.heap.size + 1) n _ := HI.out.2.1.same (Below.heap_setCell _ _ _ _ (by show W3.heap.size + 1 ≠ W3.heap.size; omega))
        have hF2 : BA (wr.setCell ⟨W3.heap.size, k, none⟩ (.bool (F k || G k))) (W.heap.size + 1) n F := (HA3.out.below HI.out.2.2).same (Below.heap_setCell _ _ _ _ (by show W.heap.size + 1 ≠ W3.heap.size; have := HLT.out; omega))
        have hG2 : BA (wr.setCell ⟨W3.heap.size, k, none⟩ (.bool (F k || G k))) (W1.heap.size + 1) n G := (HG3.out.below HI.out.2.2).same (Below.heap_setCell _ _ _ _ (by show W1.heap.size + 1 ≠ W3.heap.size; have := HLT.out; omega))
        have hcF2 := hF2.cell hltk
        have hcG2 := hG2.cell hltk
        have hcQ := hQ2.cell hltk
        have hfQ := hQ2.frozen k
        have hQ3 := hQ2.set k (F k && !G k)
        have hP3 : BA ((wr.setCell ⟨W3.heap.size, k, none⟩ (.bool (F k || G k))).setCell ⟨W3.heap.size + 1, k, none⟩ (.bool (F k && !G k))) (W3.heap.size) n _ := hP2.same (Below.heap_setCell _ _ _ _ (by show W3.heap.size ≠ W3.heap.size + 1; omega))
        have hB4 : Below W3.heap.size W3 ((wr.setCell ⟨W3.heap.size, k, none⟩ (.bool (F k || G k))).setCell ⟨W3.heap.size + 1, k, none⟩ (.bool (F k && !G k))) := (HI.out.2.2.setCell (p := ⟨W3.heap.size, k, none⟩) (by show W3.heap.size ≤ W3.heap.size; omega) _).setCell (p := ⟨W3.heap.size + 1, k, none⟩) (by show W3.heap.size ≤ W3.heap.size + 1; omega) _
        have hstep : ∀ (g : Nat → Bool) j, j < n → updB (fun j => decide (j < k) && g j) k (g k) j = (decide (j < k + 1) && g j) := fun g j _ => by
          unfold updB
          by_cases hj : j = k
          · subst hj; simp
          · have : (j < k) ↔ (j < k + 1) := by omega
            simp [hj, this]
        have HN := Lib.hid (And.intro (hP3.congr (hstep (fun j => F j || G j))) (And.intro (hQ3.congr (hstep (fun j => F j && !G j))) hB4))
        have h0 : (0 : Int) ≤ (k : Int) := by omega
        have hk1 : (k : Int) < (n : Int) := by omega
        clear hP2 hQ2 hF2 hG2 hQ3 hP3 hB4 hstep HI
        cases hf : F k <;> cases hg : G k <;> simp only [hf, hg, Bool.or_true, Bool.or_false, Bool.true_or, Bool.false_or, Bool.and_true, Bool.and_false, Bool.true_and, Bool.false_and, Bool.not_true, Bool.not_false] at hcF hcG hcF2 hcG2 hcQ hfQ HN
        all_goals go_wp2_with fail
        all_goals go_roundw
        all_goals first | exact ⟨k + 1, by omega, by simp, HN⟩ | (simp [intOf]; omega)
      · obtain rfl : k = n := by omega
        have hPf := HI.out.1.congr (g := fun j => F j || G j) (fun j hj => by simp [hj])
        have hQf := HI.out.2.1.congr (g := fun j => F j && !G j) (fun j hj => by simp [hj])
        have HPx := Lib.hid hPf
        have HQx := Lib.hid hQf
        have HSx := Lib.hid (HS.out.below HI.out.2.2)
        have HTx := Lib.hid (HT3.out.below HI.out.2.2)
        have HGx := Lib.hid (HG3.out.below HI.out.2.2)
        have HBx := Lib.hid (HB3.out.trans (HI.out.2.2.mono HB3.out.size))
        clear hPf hQf HI HS HT3 HG3 HB3 HA3
        go_wp2_with fail
        refine (slots_any _ _ (fun j => F j || G j) hn34 _ HPx.out).mono ?_
        rintro e Y1 ⟨⟨p3, c3, rfl, hrd, -⟩, hb2⟩
        have HRD := Lib.hid hrd
        clear hrd
        have nHSx := Lib.hid (HSx.out.below hb2)
        have nHTx := Lib.hid (HTx.out.below hb2)
        have nHPx := Lib.hid (HPx.out.below hb2)
        have nHQx := Lib.hid (HQx.out.below hb2)
        have nHGx := Lib.hid (HGx.out.below hb2)
        have nHBx := Lib.hid (HBx.out.trans (hb2.mono HBx.out.size))
        clear hb2 HBx HSx HTx HPx HQx HGx
        have HSx := nHSx
        have HTx := nHTx
        have HPx := nHPx
        have HQx := nHQx
        have HGx := nHGx
        have HBx := nHBx
        clear nHSx nHTx nHPx nHQx nHGx nHBx
        go_wp2_with fail
        refine (sameS _ HSx.out HRD.out rfl).mono ?_
        rintro e Y2 ⟨rfl, hb2⟩
        clear HRD
        have nHSx := Lib.hid (HSx.out.below hb2)
        have nHTx := Lib.hid (HTx.out.below hb2)
        have nHPx := Lib.hid (HPx.out.below hb2)
        have nHQx := Lib.hid (HQx.out.below hb2)
        have nHGx := Lib.hid (HGx.out.below hb2)
        have nHBx := Lib.hid (HBx.out.trans (hb2.mono HBx.out.size))
        clear hb2 HBx HSx HTx HPx HQx HGx
        have HSx := nHSx
        have HTx := nHTx
        have HPx := nHPx
        have HQx := nHQx
        have HGx := nHGx
        have HBx := nHBx
        clear nHSx nHTx nHPx nHQx nHGx nHBx
        go_wp2_with fail
        refine (minusS HSx.out HTx.out).mono ?_
        rintro e Z1 ⟨rfl, hs, ho⟩
        have hS1 := Lib.hid (hs.congr (g := fun j => F j && !G j) (fun j _ => by cases F j <;> cases G j <;> rfl))
        clear hs HSx
        have nHTx := Lib.hid (HTx.out.other ho (by have := HLT.out; omega))
        have nHPx := Lib.hid (HPx.out.other ho (by have := HLT.out; omega))
        have nHQx := Lib.hid (HQx.out.other ho (by have := HLT.out; omega))
        have nHGx := Lib.hid (HGx.out.other ho (by have := HLT.out; omega))
        have nHBx := Lib.hid (HBx.out.trans (ho.below (by have := HLT.out; omega) HBx.out.size))
        clear ho HBx HTx HPx HQx HGx
        have HTx := nHTx
        have HPx := nHPx
        have HQx := nHQx
        have HGx := nHGx
        have HBx := nHBx
        clear nHTx nHPx nHQx nHGx nHBx
        have HSx := hS1
        clear hS1
        go_wp2_with fail
        refine (slots_any _ _ (fun j => F j && !G j) hn34 _ HQx.out).mono ?_
        rintro e Y3 ⟨⟨p5, c5, rfl, hrd, -⟩, hb2⟩
        have HRD := Lib.hid hrd
        clear hrd
        have nHSx := Lib.hid (HSx.out.below hb2)
        have nHTx := Lib.hid (HTx.out.below hb2)
        have nHPx := Lib.hid (HPx.out.below hb2)
        have nHQx := Lib.hid (HQx.out.below hb2)
        have nHGx := Lib.hid (HGx.out.below hb2)
        have nHBx := Lib.hid (HBx.out.trans (hb2.mono HBx.out.size))
        clear hb2 HBx HSx HTx HPx HQx HGx
        have HSx := nHSx
        have HTx := nHTx
        have HPx := nHPx
        have HQx := nHQx
        have HGx := nHGx
        have HBx := nHBx
        clear nHSx nHTx nHPx nHQx nHGx nHBx
        go_wp2_with fail
        refine (sameS _ HSx.out HRD.out rfl).mono ?_
        rintro e Y4 ⟨rfl, hb2⟩
        clear HRD
        have nHSx := Lib.hid (HSx.out.below hb2)
        have nHTx := Lib.hid (HTx.out.below hb2)
        have nHPx := Lib.hid (HPx.out.below hb2)
        have nHQx := Lib.hid (HQx.out.below hb2)
        have nHGx := Lib.hid (HGx.out.below hb2)
        have nHBx := Lib.hid (HBx.out.trans (hb2.mono HBx.out.size))
        clear hb2 HBx HSx HTx HPx HQx HGx
        have HSx := nHSx
        have HTx := nHTx
        have HPx := nHPx
        have HQx := nHQx
        have HGx := nHGx
        have HBx := nHBx
        clear nHSx nHTx nHPx nHQx nHGx nHBx
        go_wp2_with fail
        clear HSx HPx HQx
        refine (slots_any _ _ G hn34 _ HGx.out).mono ?_
        rintro e Y5 ⟨⟨p7, c7, rfl, hrd, -⟩, hb2⟩
        have HRD := Lib.hid hrd
        clear hrd
        have nHTx := Lib.hid (HTx.out.below hb2)
        have nHGx := Lib.hid (HGx.out.below hb2)
        have nHBx := Lib.hid (HBx.out.trans (hb2.mono HBx.out.size))
        clear hb2 HBx HTx HGx
        have HTx := nHTx
        have HGx := nHGx
        have HBx := nHBx
        clear nHTx nHGx nHBx
        go_wp2_with fail
        refine (sameS _ HTx.out HRD.out rfl).mono ?_
        rintro e Y6 ⟨rfl, hb2⟩
        clear HRD
        have nHTx := Lib.hid (HTx.out.below hb2)
        have nHGx := Lib.hid (HGx.out.below hb2)
        have nHBx := Lib.hid (HBx.out.trans (hb2.mono HBx.out.size))
        clear hb2 HBx HTx HGx
        have HTx := nHTx
        have HGx := nHGx
        have HBx := nHBx
        clear nHTx nHGx nHBx
        go_wp2_with fail
        refine (unionS HTx.out HTx.out).mono ?_
        rintro e Z2 ⟨rfl, hs, ho⟩
        have hS1 := Lib.hid (hs.congr (g := G) (fun j _ => by cases G j <;> rfl))
        clear hs HTx
        have nHGx := Lib.hid (HGx.out.other ho (by have := HLT.out; omega))
        have nHBx := Lib.hid (HBx.out.trans (ho.below (by have := HLT.out; omega) HBx.out.size))
        clear ho HBx HGx
        have HGx := nHGx
        have HBx := nHBx
        clear nHGx nHBx
        have HTx := hS1
        clear hS1
        go_wp2_with fail
        refine (slots_any _ _ G hn34 _ HGx.out).mono ?_
        rintro e Y7 ⟨⟨p9, c9, rfl, hrd, -⟩, hb2⟩
        have HRD := Lib.hid hrd
        clear hrd
        have nHTx := Lib.hid (HTx.out.below hb2)
        have nHGx := Lib.hid (HGx.out.below hb2)
        have nHBx := Lib.hid (HBx.out.trans (hb2.mono HBx.out.size))
        clear hb2 HBx HTx HGx
        have HTx := nHTx
        have HGx := nHGx
        have HBx := nHBx
        clear nHTx nHGx nHBx
        go_wp2_with fail
        refine (sameS _ HTx.out HRD.out rfl).mono ?_
        rintro e Y8 ⟨rfl, hb2⟩
        clear HRD
        have nHTx := Lib.hid (HTx.out.below hb2)
        have nHGx := Lib.hid (HGx.out.below hb2)
        have nHBx := Lib.hid (HBx.out.trans (hb2.mono HBx.out.size))
        clear hb2 HBx HTx HGx
        have HTx := nHTx
        have HGx := nHGx
        have HBx := nHBx
        clear nHTx nHGx nHBx
        go_wp2_with fail
        refine (minusS HTx.out HTx.out).mono ?_
        rintro e Z3 ⟨rfl, hs, ho⟩
        have hS1 := Lib.hid (hs.congr (g := fun _ => false) (fun j _ => by cases G j <;> rfl))
        clear hs HTx HGx
        have nHBx := Lib.hid (HBx.out.trans (ho.below (by have := HLT.out; omega) HBx.out.size))
        clear ho HBx
        have HBx := nHBx
        clear nHBx
        have HTx := hS1
        clear hS1
        go_wp2_with fail
        have hlen := lenS HTx.out
        rw [show els k (fun _ => false) = [] from List.filter_eq_nil_iff.2 (by simp)] at hlen
        replace hlen : Calls Try.prog 36 #[.pointer (some ⟨W1.heap.size, 0, none⟩)] _ fun e w' => e = .returned (.int .i64 0) ∧ w' = _ := hlen
        refine hlen.mono ?_
        rintro e Z4 ⟨rfl, hw⟩
        have hw2 := hw.symm
        subst hw2
        clear hw hlen
        go_wp2_with fail
        refine (works8_any _).mono ?_
        rintro e Z5 ⟨rfl, hb2⟩
        have HBy := Lib.hid (HBx.out.trans (hb2.mono HBx.out.size))
        clear hb2 HBx HTx
        go_wp2_with fail
        go_ret
        exact ⟨rfl, HBy.out⟩
  · go_wp2_with fail
    go_loopw [13] (fun i wr => ∃ k : Nat, k ≤ n ∧ i = .int .i64 k ∧ Hid (BA wr (W3.heap.size + 1) n (fun j => decide (j < k) && (F j || G j)) ∧ BA wr (W3.heap.size) n (fun j => decide (j < k) && (F j && !G j)) ∧ Below W3.heap.size W3 wr)) (fun i _ => n - (intOf i).toNat)
    case atStart => exact ⟨0, Nat.zero_le _, rfl, Lib.hid ⟨HX.out.2.1.congr (fun j _ => by simp), HX.out.1.congr (fun j _ => by simp), HX.out.2.2⟩⟩
    case round =>
      obtain ⟨k, hk, rfl, HI⟩ := hrel
      clear HX
      by_cases hltk : k < n
      · have hcF := (HA3.out.below HI.out.2.2).cell hltk
        have hcG := (HG3.out.below HI.out.2.2).cell hltk
        have hcP := HI.out.1.cell hltk
        have hfP := HI.out.1.frozen k
        have hP2 := HI.out.1.set k (F k || G k)
        have hQ2 : BA (wr.setCell ⟨W3.heap.size + 1, k, none⟩ (.bool (F k || G k))) (W3.heap.size) n _ := HI.out.2.1.same (Below.heap_setCell _ _ _ _ (by show W3.heap.size ≠ W3.heap.size + 1; omega))
        have hF2 : BA (wr.setCell ⟨W3.heap.size + 1, k, none⟩ (.bool (F k || G k))) (W.heap.size + 1) n F := (HA3.out.below HI.out.2.2).same (Below.heap_setCell _ _ _ _ (by show W.heap.size + 1 ≠ W3.heap.size + 1; have := HLT.out; omega))
        have hG2 : BA (wr.setCell ⟨W3.heap.size + 1, k, none⟩ (.bool (F k || G k))) (W1.heap.size + 1) n G := (HG3.out.below HI.out.2.2).same (Below.heap_setCell _ _ _ _ (by show W1.heap.size + 1 ≠ W3.heap.size + 1; have := HLT.out; omega))
        have hcF2 := hF2.cell hltk
        have hcG2 := hG2.cell hltk
        have hcQ := hQ2.cell hltk
        have hfQ := hQ2.frozen k
        have hQ3 := hQ2.set k (F k && !G k)
        have hP3 : BA ((wr.setCell ⟨W3.heap.size + 1, k, none⟩ (.bool (F k || G k))).setCell ⟨W3.heap.size, k, none⟩ (.bool (F k && !G k))) (W3.heap.size + 1) n _ := hP2.same (Below.heap_setCell _ _ _ _ (by show W3.heap.size + 1 ≠ W3.heap.size; omega))
        have hB4 : Below W3.heap.size W3 ((wr.setCell ⟨W3.heap.size + 1, k, none⟩ (.bool (F k || G k))).setCell ⟨W3.heap.size, k, none⟩ (.bool (F k && !G k))) := (HI.out.2.2.setCell (p := ⟨W3.heap.size + 1, k, none⟩) (by show W3.heap.size ≤ W3.heap.size + 1; omega) _).setCell (p := ⟨W3.heap.size, k, none⟩) (by show W3.heap.size ≤ W3.heap.size; omega) _
        have hstep : ∀ (g : Nat → Bool) j, j < n → updB (fun j => decide (j < k) && g j) k (g k) j = (decide (j < k + 1) && g j) := fun g j _ => by
          unfold updB
          by_cases hj : j = k
          · subst hj; simp
          · have : (j < k) ↔ (j < k + 1) := by omega
            simp [hj, this]
        have HN := Lib.hid (And.intro (hP3.congr (hstep (fun j => F j || G j))) (And.intro (hQ3.congr (hstep (fun j => F j && !G j))) hB4))
        have h0 : (0 : Int) ≤ (k : Int) := by omega
        have hk1 : (k : Int) < (n : Int) := by omega
        clear hP2 hQ2 hF2 hG2 hQ3 hP3 hB4 hstep HI
        cases hf : F k <;> cases hg : G k <;> simp only [hf, hg, Bool.or_true, Bool.or_false, Bool.true_or, Bool.false_or, Bool.and_true, Bool.and_false, Bool.true_and, Bool.false_and, Bool.not_true, Bool.not_false] at hcF hcG hcF2 hcG2 hcQ hfQ HN
        all_goals go_wp2_with fail
        all_goals go_roundw
        all_goals first | exact ⟨k + 1, by omega, by simp, HN⟩ | (simp [intOf]; omega)
      · obtain rfl : k = n := by omega
        have hPf := HI.out.1.congr (g := fun j => F j || G j) (fun j hj => by simp [hj])
        have hQf := HI.out.2.1.congr (g := fun j => F j && !G j) (fun j hj => by simp [hj])
        have HPx := Lib.hid hPf
        have HQx := Lib.hid hQf
        have HSx := Lib.hid (HS.out.below HI.out.2.2)
        have HTx := Lib.hid (HT3.out.below HI.out.2.2)
        have HGx := Lib.hid (HG3.out.below HI.out.2.2)
        have HBx := Lib.hid (HB3.out.trans (HI.out.2.2.mono HB3.out.size))
        clear hPf hQf HI HS HT3 HG3 HB3 HA3
        go_wp2_with fail
        refine (slots_any _ _ (fun j => F j || G j) hn34 _ HPx.out).mono ?_
        rintro e Y1 ⟨⟨p3, c3, rfl, hrd, -⟩, hb2⟩
        have HRD := Lib.hid hrd
        clear hrd
        have nHSx := Lib.hid (HSx.out.below hb2)
        have nHTx := Lib.hid (HTx.out.below hb2)
        have nHPx := Lib.hid (HPx.out.below hb2)
        have nHQx := Lib.hid (HQx.out.below hb2)
        have nHGx := Lib.hid (HGx.out.below hb2)
        have nHBx := Lib.hid (HBx.out.trans (hb2.mono HBx.out.size))
        clear hb2 HBx HSx HTx HPx HQx HGx
        have HSx := nHSx
        have HTx := nHTx
        have HPx := nHPx
        have HQx := nHQx
        have HGx := nHGx
        have HBx := nHBx
        clear nHSx nHTx nHPx nHQx nHGx nHBx
        go_wp2_with fail
        refine (sameS _ HSx.out HRD.out rfl).mono ?_
        rintro e Y2 ⟨rfl, hb2⟩
        clear HRD
        have nHSx := Lib.hid (HSx.out.below hb2)
        have nHTx := Lib.hid (HTx.out.below hb2)
        have nHPx := Lib.hid (HPx.out.below hb2)
        have nHQx := Lib.hid (HQx.out.below hb2)
        have nHGx := Lib.hid (HGx.out.below hb2)
        have nHBx := Lib.hid (HBx.out.trans (hb2.mono HBx.out.size))
        clear hb2 HBx HSx HTx HPx HQx HGx
        have HSx := nHSx
        have HTx := nHTx
        have HPx := nHPx
        have HQx := nHQx
        have HGx := nHGx
        have HBx := nHBx
        clear nHSx nHTx nHPx nHQx nHGx nHBx
        go_wp2_with fail
        refine (minusS HSx.out HTx.out).mono ?_
        rintro e Z1 ⟨rfl, hs, ho⟩
        have hS1 := Lib.hid (hs.congr (g := fun j => F j && !G j) (fun j _ => by cases F j <;> cases G j <;> rfl))
        clear hs HSx
        have nHTx := Lib.hid (HTx.out.other ho (by have := HLT.out; omega))
        have nHPx := Lib.hid (HPx.out.other ho (by have := HLT.out; omega))
        have nHQx := Lib.hid (HQx.out.other ho (by have := HLT.out; omega))
        have nHGx := Lib.hid (HGx.out.other ho (by have := HLT.out; omega))
        have nHBx := Lib.hid (HBx.out.trans (ho.below (by have := HLT.out; omega) HBx.out.size))
        clear ho HBx HTx HPx HQx HGx
        have HTx := nHTx
        have HPx := nHPx
        have HQx := nHQx
        have HGx := nHGx
        have HBx := nHBx
        clear nHTx nHPx nHQx nHGx nHBx
        have HSx := hS1
        clear hS1
        go_wp2_with fail
        refine (slots_any _ _ (fun j => F j && !G j) hn34 _ HQx.out).mono ?_
        rintro e Y3 ⟨⟨p5, c5, rfl, hrd, -⟩, hb2⟩
        have HRD := Lib.hid hrd
        clear hrd
        have nHSx := Lib.hid (HSx.out.below hb2)
        have nHTx := Lib.hid (HTx.out.below hb2)
        have nHPx := Lib.hid (HPx.out.below hb2)
        have nHQx := Lib.hid (HQx.out.below hb2)
        have nHGx := Lib.hid (HGx.out.below hb2)
        have nHBx := Lib.hid (HBx.out.trans (hb2.mono HBx.out.size))
        clear hb2 HBx HSx HTx HPx HQx HGx
        have HSx := nHSx
        have HTx := nHTx
        have HPx := nHPx
        have HQx := nHQx
        have HGx := nHGx
        have HBx := nHBx
        clear nHSx nHTx nHPx nHQx nHGx nHBx
        go_wp2_with fail
        refine (sameS _ HSx.out HRD.out rfl).mono ?_
        rintro e Y4 ⟨rfl, hb2⟩
        clear HRD
        have nHSx := Lib.hid (HSx.out.below hb2)
        have nHTx := Lib.hid (HTx.out.below hb2)
        have nHPx := Lib.hid (HPx.out.below hb2)
        have nHQx := Lib.hid (HQx.out.below hb2)
        have nHGx := Lib.hid (HGx.out.below hb2)
        have nHBx := Lib.hid (HBx.out.trans (hb2.mono HBx.out.size))
        clear hb2 HBx HSx HTx HPx HQx HGx
        have HSx := nHSx
        have HTx := nHTx
        have HPx := nHPx
        have HQx := nHQx
        have HGx := nHGx
        have HBx := nHBx
        clear nHSx nHTx nHPx nHQx nHGx nHBx
        go_wp2_with fail
        clear HSx HPx HQx
        refine (slots_any _ _ G hn34 _ HGx.out).mono ?_
        rintro e Y5 ⟨⟨p7, c7, rfl, hrd, -⟩, hb2⟩
        have HRD := Lib.hid hrd
        clear hrd
        have nHTx := Lib.hid (HTx.out.below hb2)
        have nHGx := Lib.hid (HGx.out.below hb2)
        have nHBx := Lib.hid (HBx.out.trans (hb2.mono HBx.out.size))
        clear hb2 HBx HTx HGx
        have HTx := nHTx
        have HGx := nHGx
        have HBx := nHBx
        clear nHTx nHGx nHBx
        go_wp2_with fail
        refine (sameS _ HTx.out HRD.out rfl).mono ?_
        rintro e Y6 ⟨rfl, hb2⟩
        clear HRD
        have nHTx := Lib.hid (HTx.out.below hb2)
        have nHGx := Lib.hid (HGx.out.below hb2)
        have nHBx := Lib.hid (HBx.out.trans (hb2.mono HBx.out.size))
        clear hb2 HBx HTx HGx
        have HTx := nHTx
        have HGx := nHGx
        have HBx := nHBx
        clear nHTx nHGx nHBx
        go_wp2_with fail
        refine (unionS HTx.out HTx.out).mono ?_
        rintro e Z2 ⟨rfl, hs, ho⟩
        have hS1 := Lib.hid (hs.congr (g := G) (fun j _ => by cases G j <;> rfl))
        clear hs HTx
        have nHGx := Lib.hid (HGx.out.other ho (by have := HLT.out; omega))
        have nHBx := Lib.hid (HBx.out.trans (ho.below (by have := HLT.out; omega) HBx.out.size))
        clear ho HBx HGx
        have HGx := nHGx
        have HBx := nHBx
        clear nHGx nHBx
        have HTx := hS1
        clear hS1
        go_wp2_with fail
        refine (slots_any _ _ G hn34 _ HGx.out).mono ?_
        rintro e Y7 ⟨⟨p9, c9, rfl, hrd, -⟩, hb2⟩
        have HRD := Lib.hid hrd
        clear hrd
        have nHTx := Lib.hid (HTx.out.below hb2)
        have nHGx := Lib.hid (HGx.out.below hb2)
        have nHBx := Lib.hid (HBx.out.trans (hb2.mono HBx.out.size))
        clear hb2 HBx HTx HGx
        have HTx := nHTx
        have HGx := nHGx
        have HBx := nHBx
        clear nHTx nHGx nHBx
        go_wp2_with fail
        refine (sameS _ HTx.out HRD.out rfl).mono ?_
        rintro e Y8 ⟨rfl, hb2⟩
        clear HRD
        have nHTx := Lib.hid (HTx.out.below hb2)
        have nHGx := Lib.hid (HGx.out.below hb2)
        have nHBx := Lib.hid (HBx.out.trans (hb2.mono HBx.out.size))
        clear hb2 HBx HTx HGx
        have HTx := nHTx
        have HGx := nHGx
        have HBx := nHBx
        clear nHTx nHGx nHBx
        go_wp2_with fail
        refine (minusS HTx.out HTx.out).mono ?_
        rintro e Z3 ⟨rfl, hs, ho⟩
        have hS1 := Lib.hid (hs.congr (g := fun _ => false) (fun j _ => by cases G j <;> rfl))
        clear hs HTx HGx
        have nHBx := Lib.hid (HBx.out.trans (ho.below (by have := HLT.out; omega) HBx.out.size))
        clear ho HBx
        have HBx := nHBx
        clear nHBx
        have HTx := hS1
        clear hS1
        go_wp2_with fail
        have hlen := lenS HTx.out
        rw [show els k (fun _ => false) = [] from List.filter_eq_nil_iff.2 (by simp)] at hlen
        replace hlen : Calls Try.prog 36 #[.pointer (some ⟨W1.heap.size, 0, none⟩)] _ fun e w' => e = .returned (.int .i64 0) ∧ w' = _ := hlen
        refine hlen.mono ?_
        rintro e Z4 ⟨rfl, hw⟩
        have hw2 := hw.symm
        subst hw2
        clear hw hlen
        go_wp2_with fail
        refine (works8_any _).mono ?_
        rintro e Z5 ⟨rfl, hb2⟩
        have HBy := Lib.hid (HBx.out.trans (hb2.mono HBx.out.size))
        clear hb2 HBx HTx
        go_wp2_with fail
        go_ret
        exact ⟨rfl, HBy.out⟩
end Go.Proofs.Ytejkbanecbjdoaa
