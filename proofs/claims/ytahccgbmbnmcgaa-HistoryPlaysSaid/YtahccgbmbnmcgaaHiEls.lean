/- The law's own elements: what All yields, gathered. -/
import Derived.Test.YtahccgbmbnmcgaaHiGat
import Derived.Test.YtahccgbmbnmcgaaHiAllI
namespace Go.Proofs.Ytahccgbmbnmcgaa
open Go Go.RowKit

attribute [local go_sem] Oper.semAt_some

set_option maxHeartbeats 3200000 in
set_option maxRecDepth 100000 in
theorem elements_any {b : Nat} {p : Option Addr} {c lim m : Nat} {l : List Int} (w : World) (hL : HLI w b p c lim m l) (most : Nat) (hmost : l.length ≤ most) :
    Calls Try.prog 26 #[.pointer (some ⟨b, 0, none⟩), .int .i64 (most : Nat)] w fun e w' => ∃ v, e = .returned (.tuple #[v, .bool true]) ∧ w'.ownsRow w.heap.size 3 1 v l.length (l.map (Value.int .i64)) ∧ Below w.heap.size w w' := by
  suffices h : CallsIn Fence.wide 10 Try.prog 26 #[.pointer (some ⟨b, 0, none⟩), .int .i64 (most : Nat)] w fun e w' => ∃ v, e = .returned (.tuple #[v, .bool true]) ∧ w'.ownsRow w.heap.size 3 1 v l.length (l.map (Value.int .i64)) ∧ Below w.heap.size w w' from callsIn_wide.1 h
  have hll : l.length ≤ 100000 := Nat.le_trans hL.ll hL.lm
  have hblt := hL.lt
  have hplt := fun a ha => hL.own (a := a) ha
  obtain ⟨i0, hi0, hz0, hz1, hz2⟩ := info_parts infoI
  refine callsIn_of_wp_marks Try.func26 rfl trivial ?_ rfl
  simp only [Try.ntmps26, List.size_toArray, List.length_cons, List.length_nil, Nat.reduceAdd, Nat.reduceSub, Array.replicate_succ, Array.replicate_zero, List.push_toArray, List.append_toArray, List.nil_append, List.cons_append]
  gi_wp2_with fail
  refine ⟨trivial, (callsIn_wide.2 (allMakeI _ _)).mono ?_⟩
  rintro e W2 ⟨rfl, rfl⟩
  gi_wp2_with fail
  obtain ⟨S, hS⟩ : ∃ S, S = w.heap.size := ⟨_, rfl⟩
  obtain ⟨X, hX⟩ : ∃ X, X = ((((w.alloc (.cells #[.int .i64 (most : Nat)] 3)).alloc (.cells #[.slice none 0 0] 48)).alloc (.cells #[.bool false] 4)).alloc (.cells #[.slice none 0 0] 48)).alloc (.cells #[.pointer (some ⟨b, 0, none⟩)] 45) := ⟨_, rfl⟩
  have hXs : X.heap.size = S + 5 := by rw [hX, hS]; simp
  have hXb : Below S w X := by rw [hX, hS]; exact (((((Below.refl _ _).alloc (Nat.le_refl _) _).alloc (by simp) _).alloc (by simp; omega) _).alloc (by simp; omega) _).alloc (by simp; omega) _
  have b0 : Boxed X S 3 (.int .i64 (most : Nat)) := by rw [hX]; exact ((((boxed_at4 hS.symm _ _).alloc _).alloc _).alloc _).alloc _
  have b1 : Boxed X (S + 1) 48 (.slice none 0 0) := by rw [hX]; exact (((boxed_at4 (by simp [hS]) _ _).alloc _).alloc _).alloc _
  have b2 : Boxed X (S + 1 + 1) 4 (.bool false) := by rw [hX]; exact ((boxed_at4 (by simp [hS]) _ _).alloc _).alloc _
  have b3 : Boxed X (S + 1 + 1 + 1) 48 (.slice none 0 0) := by rw [hX]; exact (boxed_at4 (by simp [hS]) _ _).alloc _
  have b4 : Boxed X (S + 1 + 1 + 1 + 1) 45 (.pointer (some ⟨b, 0, none⟩)) := by rw [hX]; exact boxed_at4 (by simp [hS]) _ _
  have hLX : HLI X b p c lim m l := hL.below (by rw [← hS]; exact hXb)
  have hseq := allSeqI 9 (by omega) (S + 1 + 1 + 1 + 1) X b4.cell hLX
  have hbS : b < S := by rw [hS]; exact hblt
  have hpS : ∀ a, p = some a → a.block < S := fun a ha => by rw [hS]; exact hplt a ha
  have HWX : Hid (Below S w X) := Lib.hid hXb
  have HSw : Hid (S = w.heap.size) := Lib.hid hS
  rw [← hX, ← hS]
  clear hX hS hblt hplt hL hXb
  refine rangeIdx (encs := encAI l) (fun i T => (((T.setIfInBounds 11 (.int .i64 i)).setIfInBounds 12 (.int .i64 (l.getD i 0))).setIfInBounds 7 (.int .i64 i)).setIfInBounds 8 (.int .i64 (l.getD i 0))) rfl (by omega) (gf := 67) (lb := #[.pointer (some ⟨S + 1 + 1 + 1 + 1, 0, none⟩)]) rfl trivial (enters_of Try.func67 (by kernel_rfl) rfl)
    hseq (Below.refl _ _) (fun _ => rfl) (fun hi k A => Gat X A (S + 1 + 1 + 1) hi 48 3 ((l.take k).map (Value.int .i64)) ∧ X.heap.size ≤ hi) (fun _ _ _ _ => False)
    (fun hi s A C h _ hs => ⟨h.1.step (by omega) hs, h.2⟩)
    (fun _ _ _ _ _ h _ _ => h)
    (fun hi s A h => hLX.same (h.1.block _ (by omega) (by omega)) (fun a ha => h.1.block _ (by have := hpS a ha; omega) (by have := hpS a ha; omega)))
    (fun A hA hs => ⟨Gat.start b3 hA, hA.size⟩) ?assign1 ?body1 ?done1 ?stop1
  case assign1 =>
    intro lr' x W' K hK
    unfold encAI
    gi_wp2
    exact hK
  case body1 =>
    intro lr' hi x W' hhi hI hlt
    obtain ⟨v, hv, hrow⟩ := hI.1.out
    have hlk : ((l.take x).map (Value.int .i64)).length = x := by simp; omega
    rw [hlk] at hrow
    obtain ⟨fp, fc, rfl, hfc, hfc63⟩ := ownsRow_slice4 hrow
    have c1 := hv.cell
    have c0 : W'.cell? ⟨S, 0, none⟩ = some (.int .i64 (most : Nat)) := Boxed.cell ((hI.1.block S (by omega) (by omega)).trans b0)
    have hm1 : ¬ (most : Int) ≤ (x : Int) := by omega
    have htk : (l.take (x + 1)).map (Value.int .i64) = (l.take x).map (Value.int .i64) ++ [Value.int .i64 (l.getD x 0)] := by
      rw [takeSucc (show l[x]? = some (l.getD x 0) by rw [List.getD_eq_getElem?_getD, List.getElem?_eq_getElem hlt]; rfl), List.map_append]; rfl
    simp only [List.setIfInBounds_toArray, List.set_cons_succ, List.set_cons_zero]
    rw [htk]
    obtain ⟨u, hu⟩ : ∃ u, u = l.getD x 0 := ⟨_, rfl⟩
    rw [← hu]
    have hsz : hi ≤ W'.heap.size := hI.1.hiw
    have hkl : ((l.take x).map (Value.int .i64) ++ [Value.int .i64 u]).length = x + 1 := by simp; omega
    have HI := Lib.hid hI
    have HR := Lib.hid hrow
    have HV := Lib.hid hv
    clear hI hu htk hlk
    generalize (l.take x).map (Value.int .i64) = zs at *
    gi_wp2_with (gi_at_builtin; refine wpListIn_append_own _ rfl _ _ 48 rfl hi 3 i0 (.int .i64 0) 1 8 Try.underlying48 hi0 hz0 hz1 hz2 rfl (by decide) _ _ _ rfl (hrow.alloc _) ⟨W'.heap.size, 0, none⟩ 1 1 [.int .i64 u] rfl rfl (cell_one_new _ _ _) (by simp [Value.oneCell']) (by unfold maxLen; omega) (by omega) (by simp only [World.size_alloc]; omega) ?_; intro v' w1 hown' hgrow _; obtain ⟨g', cap', rfl⟩ := ownsRow_succ hown'; have hG := grew HV.out (by decide) HR.out (ys := zs ++ [Value.int .i64 u]) hown' hgrow; have hc1 := hG.box1.cell; have hf1 := hG.box1.frozen)
    have hm := HI.out.1.more (hkl ▸ hG) (by omega) HI.out.2
    simp only [hkl, hXs] at hm
    exact ⟨hm.2, hm.1, by have := HI.out.2; omega⟩
  case stop1 => exact fun _ _ _ _ _ _ _ _ h _ => h.elim
  case done1 =>
    intro D hi W' hD hDh hI hK
    obtain ⟨v, hv, hrow⟩ := hI.1.out
    rw [List.take_length, List.length_map] at hrow
    obtain ⟨fp, fc, hvv, hfc, hfc63⟩ := ownsRow_slice4 hrow
    have hlow := hI.1.block
    have e1 : Boxed W' (S + 1) 48 (.slice none 0 0) := (hlow (S + 1) (by omega) (by omega)).trans b1
    have e2 : Boxed W' (S + 1 + 1) 4 (.bool false) := (hlow (S + 1 + 1) (by omega) (by omega)).trans b2
    have hbW : Below S w W' := HWX.out.trans ⟨hI.1.os, hI.1.tape, hI.1.output, hI.1.size, fun k hk => hlow k (by have := hI.1.size; omega) (by omega)⟩
    have f1 := e1.set v
    have f2 : Boxed (W'.setCell ⟨S + 1, 0, none⟩ v) (S + 1 + 1) 4 (.bool false) := e2.other (by omega) v
    have g1 : Boxed ((W'.setCell ⟨S + 1, 0, none⟩ v).setCell ⟨S + 1 + 1, 0, none⟩ (.bool true)) (S + 1) 48 v := f1.other (by omega) _
    have g2 := f2.set (.bool true)
    have hD9 : D ≠ S + 1 := by omega
    have hD8 : D ≠ S + 1 + 1 := by omega
    have hK2 : ((W'.setCell ⟨S + 1, 0, none⟩ v).setCell ⟨S + 1 + 1, 0, none⟩ (.bool true)).heap[D]? = some (.deferred (some [])) := (Below.heap_setCell _ _ _ _ hD8).trans ((Below.heap_setCell _ _ _ _ hD9).trans hK)
    have h1 := (g1.kept (grownBy_putObj' _ D (.deferred none)) (by simp; omega)).cell
    have h2 := (g2.kept (grownBy_putObj' _ D (.deferred none)) (by simp; omega)).cell
    have hr3 : (((W'.setCell ⟨S + 1, 0, none⟩ v).setCell ⟨S + 1 + 1, 0, none⟩ (.bool true)).putObj D (.deferred none)).ownsRow S 3 1 v l.length (l.map (Value.int .i64)) := by
      have hlt : ∀ k, v.ownBlock = some k → hi ≤ k := fun k hk => (hrow.lt k hk).1
      have hk1 : ∀ k, some k ≠ v.ownBlock ∨ hi ≤ k := fun k => by
        by_cases h : some k = v.ownBlock
        · exact .inr (hlt k h.symm)
        · exact .inl h
      have k1 := hrow.kept (grownBy_setCell' W' (S + 1) v) (.inr (fun e => by have := hlt _ e; omega))
      have k2 := k1.kept (grownBy_setCell' _ (S + 1 + 1) (.bool true)) (.inr (fun e => by have := hlt _ e; omega))
      have k3 := k2.kept (grownBy_putObj' _ D (.deferred none)) (.inr (fun e => by have := hlt _ e; omega))
      exact ownsRow_low k3 (by omega)
    have hb3 : Below S w (((W'.setCell ⟨S + 1, 0, none⟩ v).setCell ⟨S + 1 + 1, 0, none⟩ (.bool true)).putObj D (.deferred none)) := by
      have k1 := hbW.grown (grownBy_setCell' W' (S + 1) v) (by have := hbW.size; have := HSw.out; omega) (fun k e => by cases e; omega)
      have k2 := k1.grown (grownBy_setCell' _ (S + 1 + 1) (.bool true)) (by have := k1.size; have := HSw.out; omega) (fun k e => by cases e; omega)
      exact k2.grown (grownBy_putObj' _ D (.deferred none)) (by have := k2.size; have := HSw.out; omega) (fun k e => by cases e; omega)
    have c3 := hv.cell
    have c1 := e1.cell
    have c2 := f2.cell
    have fz1 := e1.frozen
    have fz2 := f2.frozen
    have HE := Lib.hid (And.intro hK2 (And.intro h1 (And.intro h2 (And.intro hr3 hb3))))
    clear hI hv hrow hlow e1 e2 f1 f2 g1 g2 hK2 h1 h2 hr3 hb3 hbW
    subst hvv
    gi_wp2_with fail
    refine ⟨by simp, .inl ⟨_, _, rfl, run_takeDeferred HE.out.1, ?_⟩⟩
    have k1 := HE.out.2.1
    have k2 := HE.out.2.2.1
    obtain rfl := HSw.out
    refine ⟨.tuple #[.slice fp l.length fc, .bool true], ?_, _, rfl, HE.out.2.2.2.1, HE.out.2.2.2.2⟩
    simp [results, Try.f26, go_sem, k1, k2]
end Go.Proofs.Ytahccgbmbnmcgaa
