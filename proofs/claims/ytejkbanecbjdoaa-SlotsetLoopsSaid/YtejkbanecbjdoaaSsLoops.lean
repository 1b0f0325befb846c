/- SlotsetLoops. -/
import Derived.Test.YtejkbanecbjdoaaSsKnown
import Derived.Test.YtejkbanecbjdoaaRangeNB
import Derived.Deep.RegionHeld3
namespace Go.Proofs.Ytejkbanecbjdoaa
open Go Go.RowKit

attribute [local go_sem] Oper.semAt_some

theorem assign1 (i : Nat) (c : Value) (T : Array Value) : Array.foldl (fun t x => t.setIfInBounds x.fst x.snd) T (#[i].zip #[c]) = T.setIfInBounds i c := by
  simp

set_option maxHeartbeats 8000000 in
set_option maxRecDepth 100000 in
theorem loops_in (n : Nat) (hn : 8 ≤ n) (size : Nat) (hsz : size < 256) (p : Option Addr) (len c : Nat) (xs : List Nat) (hlen : xs.length = len) (hcap : len ≤ c) (hc63 : c ≤ 9223372036854775807) (some1 : Nat) (hsome : some1 < 256) (W : World) (hR : RdU W p xs) (hl : ¬ 100 < len) :
    CallsIn Fence.wide n Try.prog 9 #[.int .u8 (size : Nat), .slice p len c, .int .u8 (some1 : Nat)] W fun e w' => e = .returned (.bool true) ∧ Below W.heap.size W w' := by
  have h1 : 1 ≤ n := by omega
  have h200 : ¬ (100 : Int) < (len : Int) := by omega
  obtain ⟨N, hN⟩ : ∃ N, N = 1 + size % 34 := ⟨_, rfl⟩
  have hN1 : 1 ≤ N := by omega
  have hN34 : N ≤ 34 := by omega
  have hA0 : Below W.heap.size W ((W.alloc (.cells #[.int .u8 (some1 : Nat)] 5)).alloc (.cells #[.bool false] 4)) := ((Below.refl _ _).alloc (Nat.le_refl _) _).alloc (by simp) _
  have hfill := filled_any size hsz p len c xs hlen (by omega) _ (hR.below hA0)
  rw [← hN] at hfill
  have b0 : Boxed ((W.alloc (.cells #[.int .u8 (some1 : Nat)] 5)).alloc (.cells #[.bool false] 4)) W.heap.size 5 (.int .u8 (some1 : Nat)) := (boxed_at rfl _ _).alloc _
  have b1 : Boxed ((W.alloc (.cells #[.int .u8 (some1 : Nat)] 5)).alloc (.cells #[.bool false] 4)) (W.heap.size + 1) 4 (.bool false) := boxed_at (by simp) _ _
  simp only [World.size_alloc] at hfill
  have HFILL := Lib.hid hfill
  have HB0 := Lib.hid b0
  have HB1 := Lib.hid b1
  have HA0 := Lib.hid hA0
  clear hN hlen hcap hc63 hR hsz hfill b0 b1 hA0 hl
  generalize fillF N xs = F at *
  refine callsIn_of_wp_marks Try.func9 rfl trivial ?_ rfl
  simp only [Try.ntmps9, List.size_toArray, List.length_nil, Array.size_empty, List.length_cons, Nat.reduceAdd, Nat.reduceSub, Array.replicate_succ, Array.replicate_zero, List.push_toArray, List.append_toArray, List.nil_append, List.cons_append, Array.empty_append]
  gi_wp2_with fail
  refine ⟨trivial, (callsIn_wide.2 HFILL.out).mono ?_⟩
  rintro e W1 ⟨rfl, hS, hB, hb⟩
  have hb1' := boxed_below HB1.out hb (by omega)
  have hb0' := boxed_below HB0.out hb (by omega)
  have hbW : Below W.heap.size W W1 := HA0.out.trans (hb.mono (by omega))
  have hlt := hB.lt
  have HS := Lib.hid hS
  have HA := Lib.hid hB
  have H0 := Lib.hid hb0'
  have H1 := Lib.hid hb1'
  have HW := Lib.hid hbW
  have HLT := Lib.hid hlt
  clear hS hB hb hb1' hb0' hbW hlt HFILL HB0 HB1 HA0
  gi_wp2_with fail
  refine ⟨trivial, (callsIn_wide.2 (allMakeS _ _)).mono ?_⟩
  rintro e V1 ⟨rfl, rfl⟩
  gi_wp2_with fail
  rename_i K1 hK1
  obtain ⟨T, hT⟩ : ∃ T, T = W1.heap.size := ⟨_, rfl⟩
  obtain ⟨WR, hWR⟩ : ∃ WR, WR = ((W1.alloc (.cells #[.slice (some ⟨W.heap.size + 1 + 1 + 1, 0, none⟩) N N] 53)).alloc (.cells #[.pointer (some ⟨W.heap.size + 1 + 1, 0, none⟩)] 27)).alloc (.cells #[.int .i64 0] 3) := ⟨_, rfl⟩
  have hsR : WR.heap.size = T + 1 + 1 + 1 := by rw [hWR, hT]; simp
  have hbR : Below T W1 WR := by rw [hWR, hT]; exact (((Below.refl _ _).alloc (Nat.le_refl _) _).alloc (by simp) _).alloc (by simp; omega) _
  have c0 : Boxed WR T 53 (.slice (some ⟨W.heap.size + 1 + 1 + 1, 0, none⟩) N N) := by rw [hWR, hT]; exact ((boxed_at rfl _ _).alloc _).alloc _
  have c1 : Boxed WR (T + 1) 27 (.pointer (some ⟨W.heap.size + 1 + 1, 0, none⟩)) := by rw [hWR, hT]; exact (boxed_at (by simp) _ _).alloc _
  have c2 : Boxed WR (T + 1 + 1) 3 (.int .i64 0) := by rw [hWR, hT]; exact boxed_at (by simp) _ _
  rw [← hWR]
  have hlt := HLT.out
  have HTW := Lib.hid hT
  have HSR := Lib.hid hsR
  have HBR := Lib.hid hbR
  have HC0 := Lib.hid c0
  have HC1 := Lib.hid c1
  have HC2 := Lib.hid c2
  rw [← hT] at hlt ⊢
  clear hWR hT hsR hbR c0 c1 c2 HLT
  have HS1 : Hid (∀ V, Below (T + 1 + 1) WR V → SetAt V (W.heap.size + 1 + 1) N F) := Lib.hid fun V hV => (HS.out.below (HTW.out ▸ HBR.out)).same (hV.block _ (by omega))
  have HA1 : Hid (∀ V, Below (T + 1 + 1) WR V → BA V (W.heap.size + 1 + 1 + 1) N F) := Lib.hid fun V hV => (HA.out.below (HTW.out ▸ HBR.out)).same (hV.block _ (by omega))
  have HS5 : Hid (∀ V, Below (T + 1 + 1) WR V → Boxed V W.heap.size 5 (.int .u8 (some1 : Nat)) ∧ Boxed V (W.heap.size + 1) 4 (.bool false)) := Lib.hid fun V hV => ⟨(hV.block _ (by omega)).trans ((HBR.out.block _ (by omega)).trans H0.out), (hV.block _ (by omega)).trans ((HBR.out.block _ (by omega)).trans H1.out)⟩
  have HW1 : Hid (∀ V, Below (T + 1 + 1) WR V → Below W.heap.size W V) := Lib.hid fun V hV => (HW.out.trans (HBR.out.mono (by omega))).trans (hV.mono (by omega))
  have hseq := fun U (hU : Below (T + 1 + 1) WR U) => allSeqS (n - 1) (by omega) (T + 1) U (boxed_below HC1.out hU (by omega)).cell (HS1.out U hU)
  have hll := els_length_le N F
  have HMEM : Hid (∀ j y, (els N F)[j]? = some y → y < N ∧ F y = true) := Lib.hid fun j y h => els_mem h
  have HSL : Hid (∀ V, Hid (Below (T + 1 + 1) WR V) → Calls Try.prog 38 #[.slice (some ⟨W.heap.size + 1 + 1 + 1, 0, none⟩) N N] V fun e w' => (∃ p c, e = .returned (.slice p (els N F).length c) ∧ Hid (RdN w' p (els N F))) ∧ Below V.heap.size V w') := Lib.hid fun V hV => (slots_any _ N F hN34 V (HA1.out V hV.out)).mono fun e w' ⟨⟨p, c, he, hr, _⟩, hb⟩ => ⟨⟨p, c, he, Lib.hid hr⟩, hb⟩
  have HSM : Hid (∀ V p c, Hid (Below (T + 1 + 1) WR V) → Hid (RdN V p (els N F)) → Calls Try.prog 33 #[.pointer (some ⟨W.heap.size + 1 + 1, 0, none⟩), .slice p (els N F).length c] V fun e w' => e = .returned (.bool true) ∧ Below V.heap.size V w') := Lib.hid fun V p c hV hr => sameS V (HS1.out V hV.out) hr.out rfl
  generalize els N F = l at *
  obtain ⟨L, hL⟩ : ∃ L, L = l.length := ⟨_, rfl⟩
  have HL := Lib.hid hL
  have HSEQ := Lib.hid hseq
  rw [← hL] at HSL HSM HSEQ hll
  clear hseq hL HS HA H0 H1 HW
  refine rangeNB (encs := fun i => #[Value.int .i64 (nth l i : Nat)]) (fun x T => T.setIfInBounds 28 (.int .i64 (nth l x : Nat))) 0 rfl h1 (gf := 50) (lb := #[.pointer (some ⟨T + 1, 0, none⟩)]) rfl trivial (enters_of Try.func50 (by kernel_rfl) rfl)
    (HSEQ.out WR (Below.refl _ _)) (Below.refl _ _) (fun _ => rfl)
    (fun k V => Boxed V (T + 1 + 1) 3 (.int .i64 (k : Nat)) ∧ k ≤ some1 ∧ Below (T + 1 + 1) WR V)
    (fun k V => Boxed V (T + 1 + 1) 3 (.int .i64 (some1 : Nat)) ∧ k = some1 + 1 ∧ Below (T + 1 + 1) WR V)
    (fun s A C h ho => by
      have hz := HSR.out
      exact ⟨own_boxed h.1 ho (by omega), h.2.1, own_below h.2.2 ho (by omega) (by omega)⟩)
    (fun s A C h ho => by
      have hz := HSR.out
      exact ⟨own_boxed h.1 ho (by omega), h.2.1, own_below h.2.2 ho (by omega) (by omega)⟩)
    (fun A hA => by
      have hz := HSR.out
      exact ⟨boxed_below HC2.out hA (by omega), Nat.zero_le _, hA.mono (by omega)⟩) ?assign ?body
    (fun V => Boxed V (T + 1 + 1) 3 (.int .i64 (min some1 L : Nat)) ∧ Below (T + 1 + 1) WR V) ?done ?stop (fun _ _ h => h) ?rest
  case assign =>
    intro lr x V K hK
    gi_wp2
    rw [assign1]
    exact hK
  case done =>
    rintro V ⟨hb, hk, hV⟩
    rw [Nat.min_eq_right hk]
    exact ⟨hb, hV⟩
  case stop =>
    rintro k V hk ⟨hb, rfl, hV⟩
    rw [Nat.min_eq_left (by omega)]
    exact ⟨hb, hV⟩
  case body =>
    rintro lr x V ⟨hb, hk, hV⟩ hlt2 hsz
    obtain ⟨hb5, hb6⟩ := HS5.out V hV
    have c10 := hb.cell
    have f10 := hb.frozen
    have c5 := hb5.cell
    have hz := HSR.out
    have HBB := Lib.hid hb
    have HVV := Lib.hid hV
    have hs0 : (0 : Int) ≤ (some1 : Int) := by omega
    have hs1 : (some1 : Int) < 256 := by omega
    clear hb hb5 hb6 hV
    simp only [List.setIfInBounds_toArray, List.set_cons_succ, List.set_cons_zero]
    by_cases hxs : x = some1
    · subst hxs
      have hee : ((x : Int) == (x : Int)) = true := by simp
      gi_wp2_with fail
      first | exact ⟨KeepsIn.refl _ _ _, rfl, HBB.out, rfl, HVV.out⟩ | exact ⟨KeepsIn.refl _ _ _, rfl, HBB.out, HVV.out⟩
    · have hee : ((x : Int) == (some1 : Int)) = false := by simp; omega
      gi_wp2_with fail
      have hset := HBB.out.set (.int .i64 (x + 1 : Int))
      exact ⟨keepsIn_set _ _ (.inl (by omega)), by simpa using hset, by omega, HVV.out.setCell (p := ⟨T + 1 + 1, 0, none⟩) (Nat.le_refl _) _⟩
  case rest =>
    rintro D1 V hD1 ⟨hb, hV⟩ hK
    refine hK1 _ _ ?_
    gi_wp2_with fail
    rename_i K2 hK2
    obtain ⟨M, hM⟩ : ∃ M, M = V.heap.size := ⟨_, rfl⟩
    obtain ⟨WS, hWS⟩ : ∃ WS, WS = V.alloc (.cells #[.int .i64 0] 3) := ⟨_, rfl⟩
    have hsS : WS.heap.size = M + 1 := by rw [hWS, hM]; simp
    have hbS : Below M V WS := by rw [hWS, hM]; exact (Below.refl _ _).alloc (Nat.le_refl _) _
    have bm : Boxed WS M 3 (.int .i64 0) := by rw [hWS, hM]; exact boxed_at rfl _ _
    rw [← hWS, ← hM]
    have hDlt := (Array.getElem?_eq_some_iff.1 hK).1
    have hMT : T + 1 + 1 + 1 ≤ M := by have := hV.size; have := HSR.out; omega
    rw [← hM] at hDlt
    have HM := Lib.hid hM
    have HSS := Lib.hid hsS
    have HBM := Lib.hid bm
    have HVS : Hid (∀ U, Below M WS U → Below (T + 1 + 1) WR U ∧ Boxed U (T + 1 + 1) 3 (.int .i64 (min some1 L : Nat)) ∧ Boxed U T 53 (.slice (some ⟨W.heap.size + 1 + 1 + 1, 0, none⟩) N N) ∧ U.heap[D1]? = some (.deferred (some []))) := Lib.hid fun U hU => by
      have hVU : Below M V U := hbS.trans hU
      exact ⟨hV.trans (hVU.mono (by omega)), boxed_below hb hVU (by omega), boxed_below (boxed_below HC0.out hV (by omega)) hVU (by omega), (hVU.block _ hDlt).trans hK⟩
    clear hWS hM hsS hbS bm hb hV hK
    refine rangeN (encs := fun i => #[Value.int .i64 (nth l i : Nat)]) (fun x T => ((T.setIfInBounds 36 (.int .i64 (nth l x : Nat))).setIfInBounds 12 (.int .i64 (nth l x : Nat)))) rfl h1 (gf := 50) (lb := #[.pointer (some ⟨T + 1, 0, none⟩)]) rfl trivial (enters_of Try.func50 (by kernel_rfl) rfl)
      (HSEQ.out WS (HVS.out WS (Below.refl _ _)).1) (Below.refl _ _) (fun _ => rfl)
      (fun k U => Boxed U M 3 (.int .i64 (k : Nat)) ∧ Below M WS U)
      (fun _ _ _ => False)
      (fun s A C h ho => by
        have hz := HSS.out
        exact ⟨own_boxed h.1 ho (by omega), own_below h.2 ho (by omega) (by omega)⟩)
      (fun c s A C h ho => h)
      (fun A hA => by
        have hz := HSS.out
        exact ⟨boxed_below HBM.out hA (by omega), hA.mono (by omega)⟩) ?assign2 ?body2 ?done2 ?stop2
    case assign2 =>
      intro lr x U K hK
      gi_wp2
      exact hK
    case body2 =>
      rintro lr x U ⟨hb, hU⟩ hlt2 hsz
      obtain ⟨hVU, -, hbT, -⟩ := HVS.out U hU
      obtain ⟨y, hy⟩ : ∃ y, l[x]? = some y := ⟨_, List.getElem?_eq_getElem (by rw [← HL.out]; exact hlt2)⟩
      have hd : nth l x = y := nth_at hy
      obtain ⟨hyN, hyF⟩ := HMEM.out x y hy
      have hcy := (HA1.out U hVU).cell hyN
      rw [hyF] at hcy
      have c8 := hbT.cell
      have cM := hb.cell
      have fM := hb.frozen
      have hy0 : (0 : Int) ≤ (y : Int) := by omega
      have hy1 : (y : Int) < (N : Int) := by omega
      have HBB := Lib.hid hb
      have HUU := Lib.hid hU
      clear hb hU hVU hbT hy hyF hyN
      simp only [hd, List.setIfInBounds_toArray, List.set_cons_succ, List.set_cons_zero]
      clear hd
      gi_wp2_with fail
      have hz := HSS.out
      have hset := HBB.out.set (.int .i64 (x + 1 : Int))
      exact ⟨keepsIn_set _ _ (.inl (by omega)), by simpa using hset, HUU.out.setCell (p := ⟨M, 0, none⟩) (Nat.le_refl _) _⟩
    case done2 =>
      rintro D2 U hD2 ⟨hb, hU⟩ hK
      obtain ⟨hVU, hbn, hbT, hKD1⟩ := HVS.out U hU
      obtain ⟨hb5, hb6⟩ := HS5.out U hVU
      have hz := HSR.out
      have hzS := HSS.out
      have hDl := (Array.getElem?_eq_some_iff.1 hKD1).1
      have hDl2 := (Array.getElem?_eq_some_iff.1 hK).1
      have hwU := HW1.out U hVU
      obtain ⟨r, hr⟩ : ∃ r, r = min some1 L := ⟨_, rfl⟩
      rw [← hr] at hbn
      have hwr : IntKind.i64.wrap (some1 : Int) = (some1 : Int) := by rw [IntKind.wrap_i64]; omega
      have hmin : (if L < some1 then (L : Int) else (some1 : Int)) = (r : Int) := by rw [hr]; split <;> omega
      have hsU := hU.size
      have HX : Hid (∀ X, Below U.heap.size U X → Below (T + 1 + 1) WR X ∧ Boxed X (T + 1 + 1) 3 (.int .i64 (r : Nat)) ∧ Boxed X T 53 (.slice (some ⟨W.heap.size + 1 + 1 + 1, 0, none⟩) N N) ∧ Boxed X M 3 (.int .i64 (L : Nat)) ∧ Boxed X W.heap.size 5 (.int .u8 (some1 : Nat)) ∧ Boxed X (W.heap.size + 1) 4 (.bool false) ∧ X.heap[D1]? = some (.deferred (some [])) ∧ X.heap[D2]? = some (.deferred (some [])) ∧ Below W.heap.size W X ∧ D1 < X.heap.size ∧ D2 < X.heap.size) := Lib.hid fun X hX =>
        ⟨hVU.trans (hX.mono (by have := hVU.size; omega)), boxed_below hbn hX hbn.lt, boxed_below hbT hX hbT.lt, boxed_below hb hX hb.lt, boxed_below hb5 hX hb5.lt, boxed_below hb6 hX hb6.lt, (hX.block _ hDl).trans hKD1, (hX.block _ hDl2).trans hK, hwU.trans (hX.mono hwU.size), Nat.lt_of_lt_of_le hDl hX.size, Nat.lt_of_lt_of_le hDl2 hX.size⟩
      have HNE : Hid (W.heap.size + 1 < D1 ∧ D1 < D2 ∧ W.heap.size + 1 < T ∧ T + 1 + 1 < M) := Lib.hid ⟨by omega, by omega, by omega, by omega⟩
      clear hb hU hVU hbn hbT hKD1 hb5 hb6 hK hwU hr hsU hDl hDl2 hz hzS
      have HCELL : Hid (∀ X, Hid (Below U.heap.size U X) → X.cell? ⟨T + 1 + 1, 0, none⟩ = some (.int .i64 (r : Nat)) ∧ X.cell? ⟨T, 0, none⟩ = some (.slice (some ⟨W.heap.size + 1 + 1 + 1, 0, none⟩) N N) ∧ X.cell? ⟨M, 0, none⟩ = some (.int .i64 (L : Nat)) ∧ X.cell? ⟨W.heap.size, 0, none⟩ = some (.int .u8 (some1 : Nat))) := Lib.hid fun X hX => by
        obtain ⟨-, a2, a3, a4, a5, a6, -⟩ := HX.out X hX.out
        exact ⟨a2.cell, a3.cell, a4.cell, a5.cell⟩
      have HC38 : Hid (∀ X, Hid (Below U.heap.size U X) → Calls Try.prog 38 #[.slice (some ⟨W.heap.size + 1 + 1 + 1, 0, none⟩) N N] X fun e w' => (∃ p c, e = .returned (.slice p L c) ∧ Hid (RdN w' p l)) ∧ Hid (Below U.heap.size U w')) := Lib.hid fun X hX => (HSL.out X (Lib.hid (HX.out X hX.out).1)).mono fun e w' ⟨h, hb⟩ => ⟨h, Lib.hid (hX.out.trans (hb.mono hX.out.size))⟩
      have HC33 : Hid (∀ X p c, Hid (Below U.heap.size U X) → Hid (RdN X p l) → Calls Try.prog 33 #[.pointer (some ⟨W.heap.size + 1 + 1, 0, none⟩), .slice p L c] X fun e w' => e = .returned (.bool true) ∧ Hid (Below U.heap.size U w')) := Lib.hid fun X p c hX hr => (HSM.out X p c (Lib.hid (HX.out X hX.out).1) hr).mono fun e w' ⟨h, hb⟩ => ⟨h, Lib.hid (hX.out.trans (hb.mono hX.out.size))⟩
      have HC12 : Hid (∀ X, Hid (Below U.heap.size U X) → Calls Try.prog 12 #[] X fun e w' => e = .returned (.bool true) ∧ Hid (Below U.heap.size U w')) := Lib.hid fun X hX => (works8_any X).mono fun e w' ⟨h, hb⟩ => ⟨h, Lib.hid (hX.out.trans (hb.mono hX.out.size))⟩
      have HC6 : Hid (∀ X, Hid (Below U.heap.size U X) → X.cell? ⟨W.heap.size + 1, 0, none⟩ = some (.bool false) ∧ X.frozen? ⟨W.heap.size + 1, 0, none⟩ = false ∧ Hid (((X.setCell ⟨W.heap.size + 1, 0, none⟩ (.bool true)).cell? ⟨T + 1 + 1, 0, none⟩ = some (.int .i64 (r : Nat)) ∧ (X.setCell ⟨W.heap.size + 1, 0, none⟩ (.bool true)).cell? ⟨T, 0, none⟩ = some (.slice (some ⟨W.heap.size + 1 + 1 + 1, 0, none⟩) N N) ∧ (X.setCell ⟨W.heap.size + 1, 0, none⟩ (.bool true)).cell? ⟨M, 0, none⟩ = some (.int .i64 (L : Nat)) ∧ (X.setCell ⟨W.heap.size + 1, 0, none⟩ (.bool true)).cell? ⟨W.heap.size, 0, none⟩ = some (.int .u8 (some1 : Nat))) ∧ Boxed (X.setCell ⟨W.heap.size + 1, 0, none⟩ (.bool true)) (W.heap.size + 1) 4 (.bool true) ∧ (X.setCell ⟨W.heap.size + 1, 0, none⟩ (.bool true)).heap[D1]? = some (.deferred (some [])) ∧ (X.setCell ⟨W.heap.size + 1, 0, none⟩ (.bool true)).heap[D2]? = some (.deferred (some [])) ∧ Below W.heap.size W (X.setCell ⟨W.heap.size + 1, 0, none⟩ (.bool true)))) := Lib.hid fun X hX => by
        obtain ⟨-, a2, a3, a4, a5, a6, a7, a8, a9, -⟩ := HX.out X hX.out
        have hn := HNE.out
        exact ⟨a6.cell, a6.frozen, Lib.hid ⟨⟨(boxed_other a2 (by omega)).cell, (boxed_other a3 (by omega)).cell, (boxed_other a4 (by omega)).cell, (boxed_other a5 (by omega)).cell⟩, a6.set _, (Below.heap_setCell _ _ _ _ (by show D1 ≠ W.heap.size + 1; omega)).trans a7, (Below.heap_setCell _ _ _ _ (by show D2 ≠ W.heap.size + 1; omega)).trans a8, a9.setCell (p := ⟨W.heap.size + 1, 0, none⟩) (by show W.heap.size ≤ W.heap.size + 1; omega) _⟩⟩
      have hU0 : Hid (Below U.heap.size U U) := Lib.hid (Below.refl _ _)
      have hU1 : Hid (Below U.heap.size U U.drew) := Lib.hid Below.drewSelf
      refine hK2 _ _ ?_
      gi_wp2_with fail
      refine wpIn_wide.2 ?_
      refine wp_region_noPanic ?_
      go_region_held3 (fun X => X.cell? ⟨T + 1 + 1, 0, none⟩ = some (.int .i64 (r : Nat)) ∧ X.cell? ⟨T, 0, none⟩ = some (.slice (some ⟨W.heap.size + 1 + 1 + 1, 0, none⟩) N N) ∧ X.cell? ⟨M, 0, none⟩ = some (.int .i64 (L : Nat)) ∧ X.cell? ⟨W.heap.size, 0, none⟩ = some (.int .u8 (some1 : Nat)))
        (first | exact HCELL.out _ (by assumption) | exact HF6.out.1)
        (first
          | (go_at_call 38; refine (HC38.out _ (by assumption)).mono ?_; rintro e w9 ⟨⟨p9, c9, rfl, hrd9⟩, hX9⟩)
          | (go_at_call 33; refine (HC33.out _ _ _ (by assumption) (by assumption)).mono ?_; rintro e w9 ⟨rfl, hX9⟩)
          | (go_at_call 12; refine (HC12.out _ (by assumption)).mono ?_; rintro e w10 ⟨rfl, hX10⟩; obtain ⟨c6, f6, HF6⟩ := HC6.out _ hX10))
      all_goals refine NoPanic.normal ?_
      all_goals gi_wp2_with fail
      all_goals (
        obtain ⟨-, hbt, he1, he2, hlow⟩ := HF6.out
        have hn := HNE.out
        generalize w10.setCell ⟨W.heap.size + 1, 0, none⟩ (.bool true) = X9 at *
        have hl1 := (Array.getElem?_eq_some_iff.1 he1).1
        have hl2 := (Array.getElem?_eq_some_iff.1 he2).1
        have e1 : (X9.putObj D2 (.deferred none)).heap[D1]? = some (.deferred (some [])) := (World.putObj_heap_other (by omega)).trans he1
        have b2 := boxed_put (D := D1) (.deferred none) (boxed_put (D := D2) (.deferred none) hbt (by omega)) (by omega)
        have r2 := b2.cell
        refine ⟨by simp, .inl ⟨_, _, rfl, run_takeDeferred he2, ?_⟩⟩
        refine ⟨by simp, .inl ⟨_, _, rfl, run_takeDeferred e1, ?_⟩⟩
        refine ⟨.bool true, ?_, rfl, ?_⟩
        · simp [results, Try.f9, go_sem, r2]
        · exact hlow.trans ⟨rfl, rfl, rfl, by simp, fun k hk => (World.putObj_heap_other (by omega)).trans (World.putObj_heap_other (by omega))⟩)
    case stop2 =>
      rintro D c k U hD hk h hK
      exact h.elim

set_option maxHeartbeats 800000 in
set_option maxRecDepth 100000 in
theorem loops_any (size : Nat) (hsz : size < 256) (p : Option Addr) (len c : Nat) (xs : List Nat) (hlen : xs.length = len) (hcap : len ≤ c) (hc63 : c ≤ 9223372036854775807) (some1 : Nat) (hsome : some1 < 256) (W : World) (hR : RdU W p xs) :
    Calls Try.prog 9 #[.int .u8 (size : Nat), .slice p len c, .int .u8 (some1 : Nat)] W fun e w' => e = .returned (.bool true) ∧ Below W.heap.size W w' := by
  by_cases hl : 100 < len
  · refine (callsIn_wide (n := 8)).1 ?_
    have h1 : 1 ≤ 8 := by decide
    have h200 : (100 : Int) < (len : Int) := by omega
    have hA0 : Below W.heap.size W ((W.alloc (.cells #[.int .u8 (some1 : Nat)] 5)).alloc (.cells #[.bool false] 4)) := ((Below.refl _ _).alloc (Nat.le_refl _) _).alloc (by simp) _
    have b1 : Boxed ((W.alloc (.cells #[.int .u8 (some1 : Nat)] 5)).alloc (.cells #[.bool false] 4)) (W.heap.size + 1) 4 (.bool false) := boxed_at (by simp) _ _
    have hsz2 : ((W.alloc (.cells #[.int .u8 (some1 : Nat)] 5)).alloc (.cells #[.bool false] 4)).heap.size = W.heap.size + 1 + 1 := by simp
    have HA0 := Lib.hid hA0
    have HB1 := Lib.hid b1
    have HS2 := Lib.hid hsz2
    clear hA0 b1 hsz2 hR
    refine callsIn_of_wp_marks Try.func9 rfl trivial ?_ rfl
    simp only [Try.ntmps9, List.size_toArray, List.length_nil, Array.size_empty, List.length_cons, Nat.reduceAdd, Nat.reduceSub, Array.replicate_succ, Array.replicate_zero, List.push_toArray, List.append_toArray, List.nil_append, List.cons_append, Array.empty_append]
    gi_wp2_with fail
    refine ⟨trivial, (callsIn_wide.2 (works8_any _)).mono ?_⟩
    rintro e W1 ⟨rfl, hb⟩
    have hbb := boxed_below HB1.out hb (by rw [HS2.out]; omega)
    have cc := hbb.cell
    have ff := hbb.frozen
    have HBB := Lib.hid hbb
    have HB := Lib.hid (HA0.out.trans (hb.mono HA0.out.size))
    clear hb hbb
    gi_wp2_with fail
    have r2 := (HBB.out.set (.bool true)).cell
    refine ⟨.bool true, ?_, rfl, ?_⟩
    · simp [results, Try.f9, go_sem, r2]
    · exact HB.out.setCell (p := ⟨W.heap.size + 1, 0, none⟩) (by show W.heap.size ≤ W.heap.size + 1; omega) _
  · exact callsIn_wide.1 (loops_in 8 (by decide) size hsz p len c xs hlen hcap hc63 some1 hsome W hR hl)
end Go.Proofs.Ytejkbanecbjdoaa
