/- The law's own since: what Since yields, gathered. -/
import Derived.Test.YtahccgbmbnmcgaaHiGat
import Derived.Test.YtahccgbmbnmcgaaHiSinceS
namespace Go.Proofs.Ytahccgbmbnmcgaa
open Go Go.RowKit

attribute [local go_sem] Oper.semAt_some

set_option maxHeartbeats 800000 in
set_option maxRecDepth 100000 in
theorem yieldsS (g : Nat) (lb : Array Value) (W : World) :
    Calls Try.prog 63 #[.func (.func g) #[] lb] W fun e w' => e = .returned (.func (.func g) #[] lb) ∧ w' = W := by
  have hq := fun w f x y => run_eql_func_nil (P := Try.prog) w Try.underlying99 f x y
  go_enter Try.func63, Try.ntmps63
  go_wp2
  go_ret
  exact ⟨rfl, rfl⟩

set_option maxHeartbeats 3200000 in
set_option maxRecDepth 100000 in
theorem since_any {b : Nat} {p : Option Addr} {c lim m : Nat} {l : List ByteArray} (w : World) (hL : HLS w b p c lim m l) (hmost : l.length ≤ 1000) :
    Calls Try.prog 43 #[.pointer (some ⟨b, 0, none⟩)] w fun e w' => ∃ v, e = .returned v ∧ w'.ownsRow w.heap.size 9 1 v (l.length - m) ((l.drop m).map Value.string) ∧ Below w.heap.size w w' := by
  obtain ⟨ys, hys⟩ : ∃ ys, ys = l.drop m := ⟨_, rfl⟩
  obtain ⟨N, hN⟩ : ∃ N, N = l.length - m := ⟨_, rfl⟩
  rw [← hys, ← hN]
  suffices h : CallsIn Fence.wide 10 Try.prog 43 #[.pointer (some ⟨b, 0, none⟩)] w fun e w' => ∃ v, e = .returned v ∧ w'.ownsRow w.heap.size 9 1 v N (ys.map Value.string) ∧ Below w.heap.size w w' from callsIn_wide.1 h
  have hblt := hL.lt
  have hplt := fun a ha => hL.own (a := a) ha
  obtain ⟨i0, hi0, hz0, hz1, hz2⟩ := info_parts infoS
  refine callsIn_of_wp_marks Try.func43 rfl trivial ?_ rfl
  simp only [Try.ntmps43, List.size_toArray, List.length_cons, List.length_nil, Nat.reduceAdd, Nat.reduceSub, Array.replicate_succ, Array.replicate_zero, List.push_toArray, List.append_toArray, List.nil_append, List.cons_append]
  gi_wp2_with fail
  refine ⟨trivial, (callsIn_wide.2 (sinceMakeS _ _)).mono ?_⟩
  rintro e W2 ⟨rfl, rfl⟩
  gi_wp2_with fail
  refine ⟨trivial, (callsIn_wide.2 (yieldsS _ _ _)).mono ?_⟩
  rintro e W2 ⟨rfl, rfl⟩
  gi_wp2_with fail
  obtain ⟨S, hS⟩ : ∃ S, S = w.heap.size := ⟨_, rfl⟩
  obtain ⟨X, hX⟩ : ∃ X, X = (w.alloc (.cells #[.slice none 0 0] 39)).alloc (.cells #[.pointer (some ⟨b, 0, none⟩)] 24) := ⟨_, rfl⟩
  have hXs : X.heap.size = S + 2 := by rw [hX, hS]; simp
  have hXb : Below S w X := by rw [hX, hS]; exact ((Below.refl _ _).alloc (Nat.le_refl _) _).alloc (by simp) _
  have b3 : Boxed X S 39 (.slice none 0 0) := by rw [hX]; exact (boxed_at4 hS.symm _ _).alloc _
  have b4 : Boxed X (S + 1) 24 (.pointer (some ⟨b, 0, none⟩)) := by rw [hX]; exact boxed_at4 (by simp [hS]) _ _
  have hLX : HLS X b p c lim m l := hL.below (by rw [← hS]; exact hXb)
  have hseq := sinceSeqS 9 (by omega) (S + 1) X b4.cell hLX
  have hbS : b < S := by rw [hS]; exact hblt
  have hpS : ∀ a, p = some a → a.block < S := fun a ha => by rw [hS]; exact hplt a ha
  have HWX : Hid (Below S w X) := Lib.hid hXb
  have HSw : Hid (S = w.heap.size) := Lib.hid hS
  have hdl : (l.drop m).length = l.length - m := List.length_drop
  rw [← hX, ← hS]
  clear hX hS hblt hplt hL hXb
  rw [← hys, ← hN] at hdl hseq
  have hN1 : N ≤ 1000 := by omega
  clear hys hN hmost
  refine rangeIdx (encs := encES ys) (fun i T => (T.setIfInBounds 8 (.string (ys.getD i ⟨#[]⟩))).setIfInBounds 4 (.string (ys.getD i ⟨#[]⟩))) rfl (by omega) (gf := 69) (lb := #[.pointer (some ⟨S + 1, 0, none⟩)]) rfl trivial (enters_of Try.func69 (by kernel_rfl) rfl)
    hseq (Below.refl _ _) (fun _ => rfl) (fun hi k A => Gat X A S hi 39 9 ((ys.take k).map Value.string) ∧ X.heap.size ≤ hi) (fun _ _ _ _ => False)
    (fun hi s A C h _ hs => ⟨h.1.step (by omega) hs, h.2⟩)
    (fun _ _ _ _ _ h _ _ => h)
    (fun hi s A h => hLX.same (h.1.block _ (by omega) (by omega)) (fun a ha => h.1.block _ (by have := hpS a ha; omega) (by have := hpS a ha; omega)))
    (fun A hA hs => ⟨Gat.start b3 hA, hA.size⟩) ?assign1 ?body1 ?done1 ?stop1
  case assign1 =>
    intro lr' x W' K hK
    unfold encES
    gi_wp2
    exact hK
  case body1 =>
    intro lr' hi x W' hhi hI hlt
    obtain ⟨v, hv, hrow⟩ := hI.1.out
    have hlk : ((ys.take x).map Value.string).length = x := by simp; omega
    rw [hlk] at hrow
    obtain ⟨fp, fc, rfl, hfc, hfc63⟩ := ownsRow_slice4 hrow
    have c1 := hv.cell
    have hm1 : ((x : Int) == 1000) = false := by simp; omega
    have htk : (ys.take (x + 1)).map Value.string = (ys.take x).map Value.string ++ [Value.string (ys.getD x ⟨#[]⟩)] := by
      rw [takeSucc (show ys[x]? = some (ys.getD x ⟨#[]⟩) by rw [List.getD_eq_getElem?_getD, List.getElem?_eq_getElem (by omega)]; rfl), List.map_append]; rfl
    simp only [List.setIfInBounds_toArray, List.set_cons_succ, List.set_cons_zero]
    rw [htk]
    obtain ⟨u, hu⟩ : ∃ u, u = ys.getD x ⟨#[]⟩ := ⟨_, rfl⟩
    rw [← hu]
    have hsz : hi ≤ W'.heap.size := hI.1.hiw
    have hkl : ((ys.take x).map Value.string ++ [Value.string u]).length = x + 1 := by simp; omega
    have HI := Lib.hid hI
    have HR := Lib.hid hrow
    have HV := Lib.hid hv
    clear hI hu htk hlk
    generalize (ys.take x).map Value.string = zs at *
    gi_wp2_with (gi_at_builtin; refine wpListIn_append_own _ rfl _ _ 39 rfl hi 9 i0 (.string ⟨#[]⟩) 1 16 Try.underlying39 hi0 hz0 hz1 hz2 rfl (by decide) _ _ _ rfl (hrow.alloc _) ⟨W'.heap.size, 0, none⟩ 1 1 [.string u] rfl rfl (cell_one_new _ _ _) (by simp [Value.oneCell']) (by unfold maxLen; omega) (by omega) (by simp only [World.size_alloc]; omega) ?_; intro v' w1 hown' hgrow _; obtain ⟨g', cap', rfl⟩ := ownsRow_succ hown'; have hG := grew HV.out (by decide) HR.out (ys := zs ++ [Value.string u]) hown' hgrow; have hc1 := hG.box1.cell; have hf1 := hG.box1.frozen)
    have hm := HI.out.1.more (hkl ▸ hG) (by omega) HI.out.2
    simp only [hkl] at hm
    exact ⟨hm.2, hm.1, HI.out.2⟩
  case stop1 => exact fun _ _ _ _ _ _ _ _ h _ => h.elim
  case done1 =>
    intro D hi W' hD hDh hI hK
    obtain ⟨v, hv, hrow⟩ := hI.1.out
    rw [List.take_of_length_le (by omega), List.length_map, hdl] at hrow
    obtain ⟨fp, fc, hvv, hfc, hfc63⟩ := ownsRow_slice4 hrow
    have hbW : Below S w W' := HWX.out.trans ⟨hI.1.os, hI.1.tape, hI.1.output, hI.1.size, fun k hk => hI.1.block k (by have := hI.1.size; omega) (by omega)⟩
    have hr3 : (W'.putObj D (.deferred none)).ownsRow S 9 1 v N (ys.map Value.string) := by
      have hlt : ∀ k, v.ownBlock = some k → hi ≤ k := fun k hk => (hrow.lt k hk).1
      exact ownsRow_low (hrow.kept (grownBy_putObj' _ D (.deferred none)) (.inr (fun e => by have := hlt _ e; omega))) (by omega)
    have hb3 : Below S w (W'.putObj D (.deferred none)) := hbW.grown (grownBy_putObj' _ D (.deferred none)) (by have := hbW.size; have := HSw.out; omega) (fun k e => by cases e; omega)
    have c3 := hv.cell
    have HE := Lib.hid (And.intro hr3 hb3)
    clear hI hv hrow hr3 hb3 hbW
    subst hvv
    gi_wp2_with fail
    refine ⟨by simp, .inl ⟨_, _, rfl, run_takeDeferred hK, ?_⟩⟩
    obtain rfl := HSw.out
    refine ⟨.slice fp N fc, ?_, _, rfl, HE.out⟩
    simp [results, Try.f43, go_sem]
end Go.Proofs.Ytahccgbmbnmcgaa
