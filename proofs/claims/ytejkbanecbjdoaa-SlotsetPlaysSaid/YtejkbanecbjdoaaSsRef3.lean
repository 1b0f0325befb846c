/- The document's own sets: two of them, new ones, copies. -/
import Derived.Test.YtejkbanecbjdoaaSsRef2
namespace Go.Proofs.Ytejkbanecbjdoaa
open Go Go.RowKit

attribute [local go_sem] Oper.semAt_some

set_option maxHeartbeats 2000000 in
set_option maxRecDepth 100000 in
theorem rtake {W : World} {r bi c n r2 b2 c2 : Nat} {f g : Nat → Bool} (h : RefAt W r bi c n f) (h2 : RefAt W r2 b2 c2 n g) (inn : Bool) :
    Calls Try.prog 44 #[.pointer (some ⟨r, 0, none⟩), .pointer (some ⟨r2, 0, none⟩), .bool inn] W fun e w' => e = .returned (.int .i64 0) ∧ RefAt w' r bi c n (fun j => if g j then inn else f j) ∧ Only bi W w' := by
  have hv := rvalid h
  have hv2 := rvalid h2
  have hs := h.slice
  have hs2 := h2.slice
  have hn34 := h.top
  have hlt := h.row.lt
  have hall := fun q => rall (h2.below (Below.drewN' q (Below.refl _ W)))
  have HALL := Lib.hid hall
  have HR := Lib.hid h
  clear h h2 hall
  go_enter Try.func44, Try.ntmps44
  go_wp2_with fail
  refine hv.mono ?_
  rintro e w3 ⟨rfl, hw⟩
  obtain rfl : W = w3 := hw.symm
  clear hw hv
  go_wp2_with fail
  refine hv2.mono ?_
  rintro e w3 ⟨rfl, hw⟩
  obtain rfl : W = w3 := hw.symm
  clear hw hv2
  go_wp2_with fail
  go_quiet (fail)
  go_wp2_with fail
  refine (HALL.out nq).mono ?_
  rintro e W1 ⟨⟨p, cl, rfl, hrd, hpl⟩, hb⟩
  have hb1 : Below W.heap.size W W1 := (Below.drewN' nq (Below.refl _ W)).trans hb
  have HRD := Lib.hid hrd
  have HPL : Hid (∀ a, p = some a → bi < a.block) := Lib.hid fun a ha => Nat.lt_of_lt_of_le hlt (hpl a ha)
  have HR1 := Lib.hid (HR.out.below hb1)
  have HB1 := Lib.hid hb1
  have HM : Hid (∀ j y, (els n g)[j]? = some y → y < n ∧ g y = true) := Lib.hid fun j y h => els_mem h
  have HEQ : Hid (∀ j, j < n → (els n g).contains j = g j) := Lib.hid fun j hj => by
    rw [List.contains_eq_mem]
    unfold els
    simp [List.mem_filter, hj]
  have hll := els_length_le n g
  clear hrd hpl hb hb1 hs hs2 HALL
  generalize els n g = l at *
  obtain ⟨L, hL⟩ : ∃ L, L = l.length := ⟨_, rfl⟩
  have HL := Lib.hid hL
  rw [← hL] at hll ⊢
  have hL34 : (L : Int) ≤ 34 := by omega
  clear hL
  go_wp2_with fail
  go_loopw [8] (fun q wr => ∃ k : Nat, k ≤ L ∧ q = .int .i64 (k : Nat) ∧ Hid (RefAt wr r bi c n (fun j => if (l.take k).contains j then inn else f j) ∧ Only bi W1 wr)) (fun q _ => L - (intOf q).toNat)
  case atStart => exact ⟨0, Nat.zero_le _, rfl, Lib.hid ⟨HR1.out.congr (fun j _ => by simp), Only.refl _ _⟩⟩
  case round =>
    obtain ⟨k, hk, rfl, HI⟩ := hrel
    by_cases hlk : k < L
    · obtain ⟨z, hz⟩ : ∃ z, l[k]? = some z := ⟨_, List.getElem?_eq_getElem (by rw [← HL.out]; exact hlk)⟩
      obtain ⟨hzn, -⟩ := HM.out k z hz
      obtain ⟨g0, o0, rfl, hg0, hc0⟩ := HRD.out k z hz
      have hgb := HPL.out _ rfl
      have hcell : wr.cell? ⟨g0, o0 + k, none⟩ = some (.int .i64 (z : Nat)) := by
        have hbk := HI.out.2.block g0 hg0 (by have := hgb; dsimp only at this; omega)
        unfold World.cell? at hc0 ⊢
        rw [hbk]; exact hc0
      have hs := HI.out.1.slice
      have hcz := HI.out.1.row.cell hzn
      have hfz := HI.out.1.row.frozen z
      have hW := HI.out.1.write z hzn inn
      have hcg : ∀ j, j < n → updB (fun j => if (l.take k).contains j then inn else f j) z inn j = if (l.take (k + 1)).contains j then inn else f j := fun j _ => by
        rw [takeSucc hz]
        unfold updB
        by_cases e : j = z
        · subst e; simp
        · simp [e]
      have HN := Lib.hid (And.intro (hW.1.congr hcg) (HI.out.2.trans hW.2))
      have h0 : (0 : Int) ≤ (k : Int) := by omega
      have h1 : (k : Int) < (L : Int) := by omega
      have hz0 : (0 : Int) ≤ (z : Int) := by omega
      have hz1 : (z : Int) < (n : Int) := by omega
      generalize (if (l.take k).contains z then inn else f z) = ov at *
      clear hz hc0 hgb hW hcg
      go_wp2_with fail
      go_region
      all_goals go_wp2_with fail
      all_goals go_roundw
      all_goals first | exact ⟨k + 1, by omega, by simp, Lib.hid ⟨HN.out.1.below Below.drewSelf, HN.out.2.trans (Only.of_below Below.drewSelf)⟩⟩ | (simp [intOf]; omega)
    · obtain rfl : k = L := by omega
      have HF : Hid (RefAt wr r bi c n (fun j => if g j then inn else f j) ∧ Only bi W wr) := Lib.hid ⟨HI.out.1.congr (fun j hj => by
        rw [List.take_of_length_le (by rw [HL.out]; exact Nat.le_refl _), HEQ.out j hj]), (Only.of_below HB1.out).trans HI.out.2⟩
      go_wp2_with fail
      go_ret
      exact ⟨rfl, HF.out⟩

set_option maxHeartbeats 800000 in
set_option maxRecDepth 100000 in
theorem rtakeOut {W : World} {r bi c n r2 b2 c2 n2 : Nat} {f g : Nat → Bool} (h : RefAt W r bi c n f) (h2 : RefAt W r2 b2 c2 n2 g) (hne : n ≠ n2) (inn : Bool) :
    Calls Try.prog 44 #[.pointer (some ⟨r, 0, none⟩), .pointer (some ⟨r2, 0, none⟩), .bool inn] W fun e w' => e = .returned (.int .i64 2) ∧ Below W.heap.size W w' := by
  have hv := rvalid h
  have hv2 := rvalid h2
  have hs := h.slice
  have hs2 := h2.slice
  have hd2 : ((n : Int) != (n2 : Int)) = true := by simp; omega
  clear h h2
  go_enter Try.func44, Try.ntmps44
  go_wp2_with fail
  refine hv.mono ?_
  rintro e w3 ⟨rfl, hw⟩
  obtain rfl : W = w3 := hw.symm
  clear hw hv
  go_wp2_with fail
  refine hv2.mono ?_
  rintro e w3 ⟨rfl, hw⟩
  obtain rfl : W = w3 := hw.symm
  clear hw hv2
  go_wp2_with fail
  go_quiet (fail)
  go_wp2_with fail
  go_ret
  exact ⟨rfl, Below.drewN' _ (Below.refl _ _)⟩

set_option maxHeartbeats 800000 in
set_option maxRecDepth 100000 in
theorem rtakeN1 (W : World) (t : Option Addr) (inn : Bool) :
    Calls Try.prog 44 #[.pointer none, .pointer t, .bool inn] W fun e w' => e = .returned (.int .i64 1) ∧ w' = W := by
  have hv := rvalidN W
  go_enter Try.func44, Try.ntmps44
  go_wp2_with fail
  refine hv.mono ?_
  rintro e w3 ⟨rfl, hw⟩
  obtain rfl : W = w3 := hw.symm
  clear hw hv
  go_wp2_with fail
  go_ret
  exact ⟨rfl, rfl⟩

set_option maxHeartbeats 800000 in
set_option maxRecDepth 100000 in
theorem rtakeN2 {W : World} {r bi c n : Nat} {f : Nat → Bool} (h : RefAt W r bi c n f) (inn : Bool) :
    Calls Try.prog 44 #[.pointer (some ⟨r, 0, none⟩), .pointer none, .bool inn] W fun e w' => e = .returned (.int .i64 1) ∧ w' = W := by
  have hv := rvalid h
  have hv2 := rvalidN W
  clear h
  go_enter Try.func44, Try.ntmps44
  go_wp2_with fail
  refine hv.mono ?_
  rintro e w3 ⟨rfl, hw⟩
  obtain rfl : W = w3 := hw.symm
  clear hw hv
  go_wp2_with fail
  refine hv2.mono ?_
  rintro e w3 ⟨rfl, hw⟩
  obtain rfl : W = w3 := hw.symm
  clear hw hv2
  go_wp2_with fail
  go_ret
  exact ⟨rfl, rfl⟩

set_option maxHeartbeats 800000 in
set_option maxRecDepth 100000 in
/-- Union, Minus: what take answers. -/
theorem runion_of {W : World} {v t : Option Addr} {ea : Int} {P : World → Prop} (h : Calls Try.prog 44 #[.pointer v, .pointer t, .bool true] W fun e w' => e = .returned (.int .i64 ea) ∧ P w') :
    Calls Try.prog 20 #[.pointer v, .pointer t] W fun e w' => e = .returned (.int .i64 ea) ∧ P w' := by
  go_enter Try.func20, Try.ntmps20
  go_wp2_with fail
  refine h.mono ?_
  rintro e w1 ⟨rfl, HP⟩
  have HP := Lib.hid HP
  go_wp2_with fail
  go_ret
  exact ⟨rfl, HP.out⟩

set_option maxHeartbeats 800000 in
set_option maxRecDepth 100000 in
theorem rminus_of {W : World} {v t : Option Addr} {ea : Int} {P : World → Prop} (h : Calls Try.prog 44 #[.pointer v, .pointer t, .bool false] W fun e w' => e = .returned (.int .i64 ea) ∧ P w') :
    Calls Try.prog 22 #[.pointer v, .pointer t] W fun e w' => e = .returned (.int .i64 ea) ∧ P w' := by
  go_enter Try.func22, Try.ntmps22
  go_wp2_with fail
  refine h.mono ?_
  rintro e w1 ⟨rfl, HP⟩
  have HP := Lib.hid HP
  go_wp2_with fail
  go_ret
  exact ⟨rfl, HP.out⟩

/-- A new set of the document's. -/
def NewR (W w' : World) (rb n : Nat) (f : Nat → Bool) : Prop := ∃ bi c, RefAt w' rb bi c n f ∧ W.heap.size ≤ rb ∧ W.heap.size ≤ bi

set_option maxHeartbeats 800000 in
set_option maxRecDepth 100000 in
theorem rnew (W : World) (n : Nat) (h1 : 1 ≤ n) (h34 : n ≤ 34) : Calls Try.prog 14 #[.int .i64 (n : Nat)] W fun e w' => (∃ rb, e = .returned (.tuple #[.pointer (some ⟨rb, 0, none⟩), .int .i64 0]) ∧ NewR W w' rb n (fun _ => false)) ∧ Below W.heap.size W w' := by
  obtain ⟨i0, hi, hz0, hz1, hz2⟩ := info_partsS infoB
  have h2 : ¬ (n : Int) < 1 := by omega
  have h3 : ¬ (34 : Int) < (n : Int) := by omega
  go_enter Try.func14, Try.ntmps14
  go_wp2_with (at_make; refine wpList_make_full _ rfl _ _ 53 rfl W.heap.size 4 i0 (.bool false) 1 Try.underlying53 hi hz0 hz1 _ _ _ _ n rfl rfl rfl rfl (by rw [hz2]; omega) (by unfold maxLen; omega) (Nat.le_refl _) ?_; intro w2 hown hg)
  have hba := ba_made hown
  have hbw : Below W.heap.size W w2 := (Below.refl _ _).grown hg (Nat.le_refl _) (fun r h => by cases h)
  go_ret2
  exact ⟨⟨_, rfl, ⟨_, n, ⟨heap_alloc_new w2 _, ⟨⟨rowB n (fun _ => false), (Below.heap_alloc _ _ _ hba.lt).trans hba, by simp [rowB], fun k hk => rowB_get _ _ k hk⟩, Nat.le_refl _⟩, Nat.ne_of_lt hba.lt, h1, h34, by omega⟩, hbw.size, Nat.le_refl _⟩⟩, hbw.alloc hbw.size _⟩

set_option maxHeartbeats 800000 in
set_option maxRecDepth 100000 in
theorem rnewBad (W : World) (i : Int) (h : i < 1 ∨ 34 < i) : Calls Try.prog 14 #[.int .i64 i] W fun e w' => e = .returned (.tuple #[.pointer none, .int .i64 2]) ∧ w' = W := by
  by_cases h1 : i < 1
  · have hd : decide (i < 1) = true := by simpa using h1
    clear h
    go_enter Try.func14, Try.ntmps14
    go_wp2_with fail
    go_ret2
    exact ⟨rfl, rfl⟩
  · have hd : decide (i < 1) = false := by simpa using h1
    have h3 : 34 < i := by omega
    have h2 : decide (34 < i) = true := by simpa using h3
    clear h
    go_enter Try.func14, Try.ntmps14
    go_wp2_with fail
    go_ret2
    exact ⟨rfl, rfl⟩

theorem rb_of_row {w : World} {base n : Nat} {v : Value} {f : Nat → Bool} (h1 : 1 ≤ n) (h : w.ownsRow base 4 1 v (0 + n) ([] ++ (List.range n).map fun k => Value.bool (f k))) :
    ∃ g cap, v = .slice (some ⟨g, 0, none⟩) n cap ∧ base ≤ g ∧ cap ≤ 9223372036854775807 ∧ RB w g n cap f := by
  rcases h.2 with ⟨h2, h3⟩ | ⟨g, cap, cur, h2, h3, h4, h5, h6, h7, h8⟩
  · have := h.1
    simp at h3
    omega
  · refine ⟨g, cap, by rw [h2, Nat.zero_add], h3, by unfold maxLen at h6; omega, ⟨⟨cur, h4, by omega, fun k hk => ?_⟩, by omega⟩⟩
    rw [Nat.zero_add, Nat.mul_one, List.nil_append] at h8
    have h9 : (cur.toList.take n)[k]? = ((List.range n).map fun k => Value.bool (f k))[k]? := by rw [h8]
    rw [List.getElem?_take, if_pos hk, List.getElem?_map, List.getElem?_range hk, Array.getElem?_toList] at h9
    exact h9

set_option maxHeartbeats 2000000 in
set_option maxRecDepth 100000 in
theorem rcopy {W : World} {r bi c n : Nat} {f : Nat → Bool} (h : RefAt W r bi c n f) : Calls Try.prog 24 #[.pointer (some ⟨r, 0, none⟩)] W fun e w' => (∃ rb, e = .returned (.pointer (some ⟨rb, 0, none⟩)) ∧ NewR W w' rb n f) ∧ Below W.heap.size W w' := by
  obtain ⟨i0, hi, hz0, hz1, hz2⟩ := info_partsS infoB
  have hv := rvalid h
  have hbA : Below W.heap.size W (W.alloc (.cells #[] 4)) := (Below.refl _ _).alloc (Nat.le_refl _) _
  have hA := h.below hbA
  have hs := hA.slice
  have hcl := fun k hk => hA.row.cell (k := k) hk
  have hpos := h.pos
  have htop := h.top
  have hcap := h.cap
  have hown0 : (W.alloc (.cells #[] 4)).ownsRow W.heap.size 4 1 (.slice (some ⟨W.heap.size, 0, none⟩) 0 0) 0 [] :=
    ⟨rfl, .inr ⟨W.heap.size, 0, #[], rfl, Nat.le_refl _, heap_alloc_new W _, Nat.le_refl _, by unfold maxLen; omega, by simp, by simp⟩⟩
  have HOW := Lib.hid hown0
  have HNW : Hid (∀ t u, ((List.range n).map fun k => Value.bool (f k))[t]? = some u → (W.alloc (.cells #[] 4)).cell? (Addr.add ⟨bi, 0, none⟩ t) = some u) := Lib.hid fun t u ht => by
    have hk : t < n := by have := (List.getElem?_eq_some_iff.1 ht).1; simpa using this
    rw [List.getElem?_map, List.getElem?_range hk] at ht
    injection ht with ht
    subst ht
    rw [Addr.add_lit, Nat.zero_add]
    exact hcl t hk
  clear h hA hcl hown0
  go_enter Try.func24, Try.ntmps24
  go_wp2_with fail
  refine hv.mono ?_
  rintro e w3 ⟨rfl, hw⟩
  obtain rfl : W = w3 := hw.symm
  clear hw hv
  go_wp2_with (at_builtin; refine wpList_append_own _ rfl _ _ 53 rfl W.heap.size 4 i0 (.bool false) 1 1 Try.underlying53 hi hz0 hz1 hz2 rfl (by decide) _ _ _ rfl HOW.out ⟨bi, 0, none⟩ n c ((List.range n).map fun k => Value.bool (f k)) rfl (by simp) HNW.out (by intro u hu; rw [List.mem_map] at hu; obtain ⟨k, _, rfl⟩ := hu; rfl) (by unfold maxLen; omega) (by omega) (by simp) ?_; intro v' w2 hown' hgrow _; obtain ⟨g, cap, rfl, hg1, hg2, hg3⟩ := rb_of_row hpos hown'; clear hown'; have HG := Lib.hid (show (W.alloc (.cells #[] 4)).grownBy w2 (some W.heap.size) from hgrow); clear hgrow)
  have hbw : Below W.heap.size W w2 := hbA.grown HG.out hbA.size (fun q hq => by cases hq; exact Nat.le_refl _)
  go_ret
  exact ⟨⟨_, rfl, ⟨g, cap, ⟨heap_alloc_new w2 _, hg3.same (Below.heap_alloc _ _ _ hg3.lt), Nat.ne_of_lt hg3.lt, hpos, htop, hg2⟩, hbw.size, hg1⟩⟩, hbw.alloc hbw.size _⟩

set_option maxHeartbeats 800000 in
set_option maxRecDepth 100000 in
theorem rcopyN (W : World) : Calls Try.prog 24 #[.pointer none] W fun e w' => e = .returned (.pointer none) ∧ w' = W := by
  have hv := rvalidN W
  go_enter Try.func24, Try.ntmps24
  go_wp2_with (go_at_call 46; refine hv.mono ?_; rintro e w' ⟨rfl, rfl⟩)
  go_ret
  exact ⟨rfl, rfl⟩
end Go.Proofs.Ytejkbanecbjdoaa
