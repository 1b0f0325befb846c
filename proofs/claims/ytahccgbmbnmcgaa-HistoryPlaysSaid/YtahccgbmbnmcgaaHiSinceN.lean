/- The law's own since and all, of any list that is told by its iterator. -/
import Derived.Test.YtahccgbmbnmcgaaHiSinceL
namespace Go.Proofs.Ytahccgbmbnmcgaa
open Go Go.RowKit

attribute [local go_sem] Oper.semAt_some

set_option maxHeartbeats 3200000 in
set_option maxRecDepth 100000 in
theorem sinceG_any {v : Option Addr} {N : Nat} {ys : List ByteArray} {Qp : World → Prop} (w : World) (hdl : ys.length = N) (hN1 : N ≤ 1000)
    (hsq : ∀ X bl, Below w.heap.size w X → X.cell? ⟨bl, 0, none⟩ = some (.pointer v) → SeqIdx Fence.wide 9 Try.prog 69 #[.pointer (some ⟨bl, 0, none⟩)] (encES ys) Qp N X)
    (hQp : ∀ A, (∀ k, k < w.heap.size → A.heap[k]? = w.heap[k]?) → Qp A) :
    Calls Try.prog 43 #[.pointer v] w fun e w' => ∃ v, e = .returned v ∧ w'.ownsRow w.heap.size 9 1 v N (ys.map Value.string) ∧ Below w.heap.size w w' := by
  suffices h : CallsIn Fence.wide 10 Try.prog 43 #[.pointer v] w fun e w' => ∃ v, e = .returned v ∧ w'.ownsRow w.heap.size 9 1 v N (ys.map Value.string) ∧ Below w.heap.size w w' from callsIn_wide.1 h
  obtain ⟨i0, hi0, hz0, hz1, hz2⟩ := info_parts infoS
  refine callsIn_of_wp_marks Try.func43 rfl trivial ?_ rfl
  simp only [Try.ntmps43, List.size_toArray, List.length_cons, List.length_nil, Nat.reduceAdd, Nat.reduceSub, Array.replicate_succ, Array.replicate_zero, List.push_toArray, List.append_toArray, List.nil_append, List.cons_append]
  gi_wp2_with fail
  refine ⟨trivial, (callsIn_wide.2 (sinceMakeS _ _)).mono ?_⟩
  rintro e W2 ⟨rfl, rfl⟩
  gi_wp2_with fail
  refine ⟨trivial, (callsIn_wide.2 (yieldsS _ _ _)).mono ?_⟩
  rintro e W2 ⟨rfl, rfl⟩
  gi_wp2_with fail
  obtain ⟨S, hS⟩ : ∃ S, S = w.heap.size := ⟨_, rfl⟩
  obtain ⟨X, hX⟩ : ∃ X, X = (w.alloc (.cells #[.slice none 0 0] 39)).alloc (.cells #[.pointer v] 24) := ⟨_, rfl⟩
  have hXs : X.heap.size = S + 2 := by rw [hX, hS]; simp
  have hXb : Below S w X := by rw [hX, hS]; exact ((Below.refl _ _).alloc (Nat.le_refl _) _).alloc (by simp) _
  have b3 : Boxed X S 39 (.slice none 0 0) := by rw [hX]; exact (boxed_at4 hS.symm _ _).alloc _
  have b4 : Boxed X (S + 1) 24 (.pointer v) := by rw [hX]; exact boxed_at4 (by simp [hS]) _ _
  have hseq := hsq X (S + 1) (by rw [← hS]; exact hXb) b4.cell
  have HQP : Hid (∀ A, (∀ k, k < S → A.heap[k]? = X.heap[k]?) → Qp A) := Lib.hid fun A hA => hQp A (fun k hk => (hA k (by omega)).trans (hXb.block k (by omega)))
  have HWX : Hid (Below S w X) := Lib.hid hXb
  have HSw : Hid (S = w.heap.size) := Lib.hid hS
  rw [← hX, ← hS]
  clear hX hS hXb hsq hQp
  refine rangeIdx (encs := encES ys) (fun i T => (T.setIfInBounds 8 (.string (ys.getD i ⟨#[]⟩))).setIfInBounds 4 (.string (ys.getD i ⟨#[]⟩))) rfl (by omega) (gf := 69) (lb := #[.pointer (some ⟨S + 1, 0, none⟩)]) rfl trivial (enters_of Try.func69 (by kernel_rfl) rfl)
    hseq (Below.refl _ _) (fun _ => rfl) (fun hi k A => Gat X A S hi 39 9 ((ys.take k).map Value.string) ∧ X.heap.size ≤ hi) (fun _ _ _ _ => False)
    (fun hi s A C h _ hs => ⟨h.1.step (by omega) hs, h.2⟩)
    (fun _ _ _ _ _ h _ _ => h)
    (fun hi s A h => HQP.out A (fun k hk => h.1.block k (by omega) (by omega)))
    (fun A hA hs => ⟨Gat.start b3 hA, hA.size⟩) ?assign1 ?body1 ?done1 ?stop1
  case assign1 =>
    intro lr' x W' K hK
    unfold encES
    gi_wp2
    exact hK
  case body1 =>
    intro lr' hi x W' hhi hI hlt
    obtain ⟨v, hv, hrow⟩ := hI.1.out
    have hlk : ((ys.take x).map Value.string).length = x := by simp; omega
    rw [hlk] at hrow
    obtain ⟨fp, fc, rfl, hfc, hfc63⟩ := ownsRow_slice4 hrow
    have c1 := hv.cell
    have hm1 : ((x : Int) == 1000) = false := by simp; omega
    have htk : (ys.take (x + 1)).map Value.string = (ys.take x).map Value.string ++ [Value.string (ys.getD x ⟨#[]⟩)] := by
      rw [takeSucc (show ys[x]? = some (ys.getD x ⟨#[]⟩) by rw [List.getD_eq_getElem?_getD, List.getElem?_eq_getElem (by omega)]; rfl), List.map_append]; rfl
    simp only [List.setIfInBounds_toArray, List.set_cons_succ, List.set_cons_zero]
    rw [htk]
    obtain ⟨u, hu⟩ : ∃ u, u = ys.getD x ⟨#[]⟩ := ⟨_, rfl⟩
    rw [← hu]
    have hsz : hi ≤ W'.heap.size := hI.1.hiw
    have hkl : ((ys.take x).map Value.string ++ [Value.string u]).length = x + 1 := by simp; omega
    have HI := Lib.hid hI
    have HR := Lib.hid hrow
    have HV := Lib.hid hv
    clear hI hu htk hlk
    generalize (ys.take x).map Value.string = zs at *
    gi_wp2_with (gi_at_builtin; refine wpListIn_append_own _ rfl _ _ 39 rfl hi 9 i0 (.string ⟨#[]⟩) 1 16 Try.underlying39 hi0 hz0 hz1 hz2 rfl (by decide) _ _ _ rfl (hrow.alloc _) ⟨W'.heap.size, 0, none⟩ 1 1 [.string u] rfl rfl (cell_one_new _ _ _) (by simp [Value.oneCell']) (by unfold maxLen; omega) (by omega) (by simp only [World.size_alloc]; omega) ?_; intro v' w1 hown' hgrow _; obtain ⟨g', cap', rfl⟩ := ownsRow_succ hown'; have hG := grew HV.out (by decide) HR.out (ys := zs ++ [Value.string u]) hown' hgrow; have hc1 := hG.box1.cell; have hf1 := hG.box1.frozen)
    have hm := HI.out.1.more (hkl ▸ hG) (by omega) HI.out.2
    simp only [hkl] at hm
    exact ⟨hm.2, hm.1, HI.out.2⟩
  case stop1 => exact fun _ _ _ _ _ _ _ _ h _ => h.elim
  case done1 =>
    intro D hi W' hD hDh hI hK
    obtain ⟨v, hv, hrow⟩ := hI.1.out
    rw [List.take_of_length_le (by omega), List.length_map, hdl] at hrow
    obtain ⟨fp, fc, hvv, hfc, hfc63⟩ := ownsRow_slice4 hrow
    have hbW : Below S w W' := HWX.out.trans ⟨hI.1.os, hI.1.tape, hI.1.output, hI.1.size, fun k hk => hI.1.block k (by have := hI.1.size; omega) (by omega)⟩
    have hr3 : (W'.putObj D (.deferred none)).ownsRow S 9 1 v N (ys.map Value.string) := by
      have hlt : ∀ k, v.ownBlock = some k → hi ≤ k := fun k hk => (hrow.lt k hk).1
      exact ownsRow_low (hrow.kept (grownBy_putObj' _ D (.deferred none)) (.inr (fun e => by have := hlt _ e; omega))) (by omega)
    have hb3 : Below S w (W'.putObj D (.deferred none)) := hbW.grown (grownBy_putObj' _ D (.deferred none)) (by have := hbW.size; have := HSw.out; omega) (fun k e => by cases e; omega)
    have c3 := hv.cell
    have HE := Lib.hid (And.intro hr3 hb3)
    clear hI hv hrow hr3 hb3 hbW
    subst hvv
    gi_wp2_with fail
    refine ⟨by simp, .inl ⟨_, _, rfl, run_takeDeferred hK, ?_⟩⟩
    obtain rfl := HSw.out
    refine ⟨.slice fp N fc, ?_, _, rfl, HE.out⟩
    simp [results, Try.f43, go_sem]

set_option maxHeartbeats 800000 in
set_option maxRecDepth 100000 in
theorem yieldsTwoS (g : Nat) (lb : Array Value) (W : World) :
    Calls Try.prog 65 #[.func (.func g) #[] lb] W fun e w' => e = .returned (.func (.func g) #[] lb) ∧ w' = W := by
  have hq := fun w f x y => run_eql_func_nil (P := Try.prog) w Try.underlying103 f x y
  go_enter Try.func65, Try.ntmps65
  go_wp2
  go_ret
  exact ⟨rfl, rfl⟩

set_option maxHeartbeats 3200000 in
set_option maxRecDepth 100000 in
theorem allG_any {v : Option Addr} {N : Nat} {l : List ByteArray} {Qp : World → Prop} (w : World) (hll : l.length = N) (hN1 : N < 1000)
    (hsq : ∀ X bl, Below w.heap.size w X → X.cell? ⟨bl, 0, none⟩ = some (.pointer v) → SeqIdx Fence.wide 9 Try.prog 71 #[.pointer (some ⟨bl, 0, none⟩)] (encAS l) Qp N X)
    (hQp : ∀ A, (∀ k, k < w.heap.size → A.heap[k]? = w.heap[k]?) → Qp A) :
    Calls Try.prog 50 #[.pointer v] w fun e w' => ∃ v, e = .returned (.tuple #[v, .bool true]) ∧ w'.ownsRow w.heap.size 9 1 v N (l.map Value.string) ∧ Below w.heap.size w w' := by
  suffices h : CallsIn Fence.wide 10 Try.prog 50 #[.pointer v] w fun e w' => ∃ v, e = .returned (.tuple #[v, .bool true]) ∧ w'.ownsRow w.heap.size 9 1 v N (l.map Value.string) ∧ Below w.heap.size w w' from callsIn_wide.1 h
  obtain ⟨i0, hi0, hz0, hz1, hz2⟩ := info_parts infoS
  refine callsIn_of_wp_marks Try.func50 rfl trivial ?_ rfl
  simp only [Try.ntmps50, List.size_toArray, List.length_cons, List.length_nil, Nat.reduceAdd, Nat.reduceSub, Array.replicate_succ, Array.replicate_zero, List.push_toArray, List.append_toArray, List.nil_append, List.cons_append]
  gi_wp2_with fail
  refine ⟨trivial, (callsIn_wide.2 (allMakeS _ _)).mono ?_⟩
  rintro e W2 ⟨rfl, rfl⟩
  gi_wp2_with fail
  refine ⟨trivial, (callsIn_wide.2 (yieldsTwoS _ _ _)).mono ?_⟩
  rintro e W2 ⟨rfl, rfl⟩
  gi_wp2_with fail
  obtain ⟨S, hS⟩ : ∃ S, S = w.heap.size := ⟨_, rfl⟩
  obtain ⟨X, hX⟩ : ∃ X, X = (((w.alloc (.cells #[.slice none 0 0] 39)).alloc (.cells #[.bool false] 4)).alloc (.cells #[.slice none 0 0] 39)).alloc (.cells #[.pointer v] 24) := ⟨_, rfl⟩
  have hXs : X.heap.size = S + 4 := by rw [hX, hS]; simp
  have hXb : Below S w X := by rw [hX, hS]; exact ((((Below.refl _ _).alloc (Nat.le_refl _) _).alloc (by simp) _).alloc (by simp; omega) _).alloc (by simp; omega) _
  have b1 : Boxed X S 39 (.slice none 0 0) := by rw [hX]; exact (((boxed_at4 hS.symm _ _).alloc _).alloc _).alloc _
  have b2 : Boxed X (S + 1) 4 (.bool false) := by rw [hX]; exact ((boxed_at4 (by simp [hS]) _ _).alloc _).alloc _
  have b3 : Boxed X (S + 1 + 1) 39 (.slice none 0 0) := by rw [hX]; exact (boxed_at4 (by simp [hS]) _ _).alloc _
  have b4 : Boxed X (S + 1 + 1 + 1) 24 (.pointer v) := by rw [hX]; exact boxed_at4 (by simp [hS]) _ _
  have hseq := hsq X (S + 1 + 1 + 1) (by rw [← hS]; exact hXb) b4.cell
  have HQP : Hid (∀ A, (∀ k, k < S → A.heap[k]? = X.heap[k]?) → Qp A) := Lib.hid fun A hA => hQp A (fun k hk => (hA k (by omega)).trans (hXb.block k (by omega)))
  have HWX : Hid (Below S w X) := Lib.hid hXb
  have HSw : Hid (S = w.heap.size) := Lib.hid hS
  rw [← hX, ← hS]
  clear hX hS hXb hsq hQp
  refine rangeIdx (encs := encAS l) (fun i T => (((T.setIfInBounds 10 (.int .i64 i)).setIfInBounds 11 (.string (l.getD i ⟨#[]⟩))).setIfInBounds 5 (.int .i64 i)).setIfInBounds 6 (.string (l.getD i ⟨#[]⟩))) rfl (by omega) (gf := 71) (lb := #[.pointer (some ⟨S + 1 + 1 + 1, 0, none⟩)]) rfl trivial (enters_of Try.func71 (by kernel_rfl) rfl)
    hseq (Below.refl _ _) (fun _ => rfl) (fun hi k A => Gat X A (S + 1 + 1) hi 39 9 ((l.take k).map Value.string) ∧ X.heap.size ≤ hi) (fun _ _ _ _ => False)
    (fun hi s A C h _ hs => ⟨h.1.step (by omega) hs, h.2⟩)
    (fun _ _ _ _ _ h _ _ => h)
    (fun hi s A h => HQP.out A (fun k hk => h.1.block k (by omega) (by omega)))
    (fun A hA hs => ⟨Gat.start b3 hA, hA.size⟩) ?assign1 ?body1 ?done1 ?stop1
  case assign1 =>
    intro lr' x W' K hK
    unfold encAS
    gi_wp2
    exact hK
  case body1 =>
    intro lr' hi x W' hhi hI hlt
    obtain ⟨v, hv, hrow⟩ := hI.1.out
    have hlk : ((l.take x).map Value.string).length = x := by simp; omega
    rw [hlk] at hrow
    obtain ⟨fp, fc, rfl, hfc, hfc63⟩ := ownsRow_slice4 hrow
    have c1 := hv.cell
    have hm1 : ((x : Int) == 1000) = false := by simp; omega
    have htk : (l.take (x + 1)).map Value.string = (l.take x).map Value.string ++ [Value.string (l.getD x ⟨#[]⟩)] := by
      rw [takeSucc (show l[x]? = some (l.getD x ⟨#[]⟩) by rw [List.getD_eq_getElem?_getD, List.getElem?_eq_getElem (show x < l.length by omega)]; rfl), List.map_append]; rfl
    simp only [List.setIfInBounds_toArray, List.set_cons_succ, List.set_cons_zero]
    rw [htk]
    obtain ⟨u, hu⟩ : ∃ u, u = l.getD x ⟨#[]⟩ := ⟨_, rfl⟩
    rw [← hu]
    have hsz : hi ≤ W'.heap.size := hI.1.hiw
    have hkl : ((l.take x).map Value.string ++ [Value.string u]).length = x + 1 := by simp; omega
    have HI := Lib.hid hI
    have HR := Lib.hid hrow
    have HV := Lib.hid hv
    clear hI hu htk hlk
    generalize (l.take x).map Value.string = zs at *
    gi_wp2_with (gi_at_builtin; refine wpListIn_append_own _ rfl _ _ 39 rfl hi 9 i0 (.string ⟨#[]⟩) 1 16 Try.underlying39 hi0 hz0 hz1 hz2 rfl (by decide) _ _ _ rfl (hrow.alloc _) ⟨W'.heap.size, 0, none⟩ 1 1 [.string u] rfl rfl (cell_one_new _ _ _) (by simp [Value.oneCell']) (by unfold maxLen; omega) (by omega) (by simp only [World.size_alloc]; omega) ?_; intro v' w1 hown' hgrow _; obtain ⟨g', cap', rfl⟩ := ownsRow_succ hown'; have hG := grew HV.out (by decide) HR.out (ys := zs ++ [Value.string u]) hown' hgrow; have hc1 := hG.box1.cell; have hf1 := hG.box1.frozen)
    have hm := HI.out.1.more (hkl ▸ hG) (by omega) HI.out.2
    simp only [hkl] at hm
    exact ⟨hm.2, hm.1, HI.out.2⟩
  case stop1 => exact fun _ _ _ _ _ _ _ _ h _ => h.elim
  case done1 =>
    intro D hi W' hD hDh hI hK
    obtain ⟨v, hv, hrow⟩ := hI.1.out
    rw [List.take_of_length_le (by omega), List.length_map, hll] at hrow
    obtain ⟨fp, fc, hvv, hfc, hfc63⟩ := ownsRow_slice4 hrow
    have hlow := hI.1.block
    have e1 : Boxed W' (S) 39 (.slice none 0 0) := (hlow (S) (by omega) (by omega)).trans b1
    have e2 : Boxed W' (S + 1) 4 (.bool false) := (hlow (S + 1) (by omega) (by omega)).trans b2
    have hbW : Below S w W' := HWX.out.trans ⟨hI.1.os, hI.1.tape, hI.1.output, hI.1.size, fun k hk => hlow k (by have := hI.1.size; omega) (by omega)⟩
    have f1 := e1.set v
    have f2 : Boxed (W'.setCell ⟨S, 0, none⟩ v) (S + 1) 4 (.bool false) := e2.other (by omega) v
    have g1 : Boxed ((W'.setCell ⟨S, 0, none⟩ v).setCell ⟨S + 1, 0, none⟩ (.bool true)) (S) 39 v := f1.other (by omega) _
    have g2 := f2.set (.bool true)
    have hD9 : D ≠ S := by omega
    have hD8 : D ≠ S + 1 := by omega
    have hK2 : ((W'.setCell ⟨S, 0, none⟩ v).setCell ⟨S + 1, 0, none⟩ (.bool true)).heap[D]? = some (.deferred (some [])) := (Below.heap_setCell _ _ _ _ hD8).trans ((Below.heap_setCell _ _ _ _ hD9).trans hK)
    have h1 := (g1.kept (grownBy_putObj' _ D (.deferred none)) (by simp; omega)).cell
    have h2 := (g2.kept (grownBy_putObj' _ D (.deferred none)) (by simp; omega)).cell
    have hr3 : (((W'.setCell ⟨S, 0, none⟩ v).setCell ⟨S + 1, 0, none⟩ (.bool true)).putObj D (.deferred none)).ownsRow S 9 1 v N (l.map Value.string) := by
      have hlt : ∀ k, v.ownBlock = some k → hi ≤ k := fun k hk => (hrow.lt k hk).1
      have hk1 : ∀ k, some k ≠ v.ownBlock ∨ hi ≤ k := fun k => by
        by_cases h : some k = v.ownBlock
        · exact .inr (hlt k h.symm)
        · exact .inl h
      have k1 := hrow.kept (grownBy_setCell' W' (S) v) (.inr (fun e => by have := hlt _ e; omega))
      have k2 := k1.kept (grownBy_setCell' _ (S + 1) (.bool true)) (.inr (fun e => by have := hlt _ e; omega))
      have k3 := k2.kept (grownBy_putObj' _ D (.deferred none)) (.inr (fun e => by have := hlt _ e; omega))
      exact ownsRow_low k3 (by omega)
    have hb3 : Below S w (((W'.setCell ⟨S, 0, none⟩ v).setCell ⟨S + 1, 0, none⟩ (.bool true)).putObj D (.deferred none)) := by
      have k1 := hbW.grown (grownBy_setCell' W' (S) v) (by have := hbW.size; have := HSw.out; omega) (fun k e => by cases e; omega)
      have k2 := k1.grown (grownBy_setCell' _ (S + 1) (.bool true)) (by have := k1.size; have := HSw.out; omega) (fun k e => by cases e; omega)
      exact k2.grown (grownBy_putObj' _ D (.deferred none)) (by have := k2.size; have := HSw.out; omega) (fun k e => by cases e; omega)
    have c3 := hv.cell
    have c1 := e1.cell
    have c2 := f2.cell
    have fz1 := e1.frozen
    have fz2 := f2.frozen
    have HE := Lib.hid (And.intro hK2 (And.intro h1 (And.intro h2 (And.intro hr3 hb3))))
    clear hI hv hrow hlow e1 e2 f1 f2 g1 g2 hK2 h1 h2 hr3 hb3 hbW
    subst hvv
    gi_wp2_with fail
    refine ⟨by simp, .inl ⟨_, _, rfl, run_takeDeferred HE.out.1, ?_⟩⟩
    have k1 := HE.out.2.1
    have k2 := HE.out.2.2.1
    obtain rfl := HSw.out
    refine ⟨.tuple #[.slice fp N fc, .bool true], ?_, _, rfl, HE.out.2.2.2.1, HE.out.2.2.2.2⟩
    simp [results, Try.f50, go_sem, k1, k2]
end Go.Proofs.Ytahccgbmbnmcgaa
