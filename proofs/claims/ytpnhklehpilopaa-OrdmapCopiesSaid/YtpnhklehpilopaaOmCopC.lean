/- Copy. -/
import Derived.Test.YtpnhklehpilopaaOmAllC
import Derived.Test.YtpnhklehpilopaaOmRange2
import Derived.Test.YtpnhklehpilopaaOmRow0
import Derived.Test.YtpnhklehpilopaaOmRound
namespace Go.Proofs.Ytpnhklehpilopaa
open Go Go.RowKit

attribute [local go_sem] Oper.semAt_some

theorem infoPairC : (Try.prog.info? 181).map (fun i => (i.zero, i.size, i.bytes)) = some (some (.agg #[.int .i64 0, .int .i64 0]), 2, 16) := by kernel_rfl

/-- A map's block and its row, whatever the order. -/
structure BagC (W : World) (b : Nat) (p : Option Addr) (c : Nat) (l : List (Int × Int)) : Prop where
  head : W.heap[b]? = some (.cells #[.pointer (some ⟨b, 0, none⟩), .slice p l.length c] 183 (0, 0))
  row : RowIs W b 181 2 (.slice p l.length c) (l.map celC)
  apart : ∀ a, p = some a → a.block ≠ b

section
variable {W w' : World} {b n c : Nat} {p : Option Addr} {l l' : List (Int × Int)}

theorem BagC.lt (h : BagC W b p c l) : b < W.heap.size := (Array.getElem?_eq_some_iff.1 h.head).1

theorem BagC.own (h : BagC W b p c l) {a : Addr} (ha : p = some a) : b ≤ a.block ∧ a.block < W.heap.size := by
  subst ha
  exact h.row.lt a.block rfl

theorem BagC.cells (h : BagC W b p c l) {a : Addr} (ha : p = some a) : ∃ cur, W.heap[a.block]? = some (.cells cur 181 (0, 0)) := by
  subst ha
  rcases h.row.parts with ⟨h1, _⟩ | ⟨g, cap, cur, h1, _, h3, _⟩
  · cases h1
  · injection h1 with e1
    injection e1 with e1
    subst e1
    exact ⟨cur, h3⟩

theorem BagC.same (h : BagC W b p c l) (hb : w'.heap[b]? = W.heap[b]?) (hr : ∀ a, p = some a → w'.heap[a.block]? = W.heap[a.block]?) : BagC w' b p c l := by
  refine ⟨hb.trans h.head, ⟨⟨h.row.1.1, ?_⟩, h.row.2⟩, h.apart⟩
  rcases h.row.1.2 with h1 | ⟨g, cap, cur, h1, h2, h3, h4⟩
  · exact .inl h1
  · refine .inr ⟨g, cap, cur, h1, h2, ?_, h4⟩
    injection h1 with e1
    rw [← h3]
    exact hr ⟨g, 0, none⟩ e1

theorem BagC.below (h : BagC W b p c l) (hb : Below W.heap.size W w') : BagC w' b p c l := h.same (hb.block _ h.lt) (fun _ ha => hb.block _ (h.own ha).2)

theorem BagC.newRow (h : BagC W b p c l) (hn : l.length = n) {v' : Value} (hg : W.grownBy w' (Value.slice p n c).ownBlock)
    (hrow : RowIs w' b 181 2 v' (l'.map celC)) (hh : v'.ownBlock = (Value.slice p n c).ownBlock ∨ ∃ r, v'.ownBlock = some r ∧ W.heap.size ≤ r) :
    w'.cell? ⟨b, 1, none⟩ = some (.slice p l.length c) ∧ w'.frozen? ⟨b, 1, none⟩ = false ∧ (∃ p' c', BagC (w'.setCell ⟨b, 1, none⟩ v') b p' c' l') ∧ Touch b p W (w'.setCell ⟨b, 1, none⟩ v') := by
  subst hn
  have hob : some b ≠ (Value.slice p l.length c).ownBlock := by
    cases p with
    | none => simp [Value.ownBlock]
    | some a => simp only [Value.ownBlock]; intro e; injection e with e; exact h.apart a rfl e.symm
  have hb' : w'.heap[b]? = some (.cells #[.pointer (some ⟨b, 0, none⟩), .slice p l.length c] 183 (0, 0)) := (hg.block b h.lt hob).trans h.head
  have hvb : v'.ownBlock ≠ some b := by
    rcases hh with e | ⟨r, e, hr⟩
    · rw [e]; exact fun e2 => hob e2.symm
    · rw [e]; intro e2; injection e2 with e2; have := h.lt; omega
  obtain ⟨p', c', rfl⟩ : ∃ p' c', v' = .slice p' l'.length c' := by
    rcases hrow.parts with ⟨h1, h2⟩ | ⟨g, cap, cur, h1, _⟩
    · have : l' = [] := by simpa using h2
      subst this
      exact ⟨none, 0, h1⟩
    · exact ⟨some ⟨g, 0, none⟩, cap, by rw [h1, List.length_map]⟩
  refine ⟨by simp [World.cell?, hb'], by simp [World.frozen?, hb'], ⟨p', c', set_head hb' _, hrow.kept (row := some b) ⟨rfl, rfl, rfl, by simp [World.setCell], fun k _ hk => Below.heap_setCell _ _ _ _ (fun e => hk (by rw [e]))⟩ (.inr hvb), fun a ha => ?_⟩, (Touch.of_grown hg).set _ _⟩
  subst ha; intro e; exact hvb (by simp only [Value.ownBlock]; rw [e])
end

/-- What stands while Copy's loop goes on: the new map with what has come, the box that points to it, all that was there. -/
structure CpC (X0 W : World) (N : Nat) (es : List (Int × Int)) : Prop where
  bag : ∃ p c, BagC W N p c es
  box : Boxed W (N + 1) 46 (.pointer (some ⟨N, 0, none⟩))
  bel : Below N X0 W

theorem cpC_from {X0 : World} {N B : Nat} (hB : N + 1 < B) (g : List Nat → List (Int × Int)) : OwnFrom B (fun pre W => CpC X0 W N (g pre)) := fun s W W' row ⟨⟨p, c, hb⟩, hx, hl⟩ hg hr => by
  have keep : ∀ k o, W.heap[k]? = some o → (k < B ∨ o.isCells = true) → W'.heap[k]? = W.heap[k]? := fun k o hk ho => hg.block k (Array.getElem?_eq_some_iff.1 hk).1 (fun e => by
    obtain ⟨h1, o', h2, h3⟩ := hr k e.symm
    rcases ho with h | h
    · omega
    · rw [h2] at hk; injection hk with hk; rw [hk] at h3; rw [h3] at h; cases h)
  refine ⟨⟨p, c, hb.same (keep N _ hb.head (.inl (by omega))) (fun a ha => ?_)⟩, (keep (N + 1) _ hx (.inl hB)).trans hx, ⟨hg.os.trans hl.os, hg.tape.trans hl.tape, hg.output.trans hl.output, Nat.le_trans hl.size hg.size, fun k hk => ?_⟩⟩
  · obtain ⟨cur, hc⟩ := hb.cells ha
    exact keep _ _ hc (.inr rfl)
  · have hlt : N < W.heap.size := hb.lt
    refine (hg.block k (by omega) (fun e => ?_)).trans (hl.block k hk)
    have := (hr k e.symm).1
    omega

/-- One round: a pair is appended. -/
theorem CpC.put {X0 W V w' : World} {N : Nat} {es : List (Int × Int)} {x : Int × Int} (h : CpC X0 W N es) (hA : Below W.heap.size W V) {p : Option Addr} {c : Nat} (hM : BagC V N p c es) {v' : Value} (hg : V.grownBy w' (Value.slice p es.length c).ownBlock)
    (hrow : RowIs w' N 181 2 v' ((es ++ [x]).map celC)) (hh : v'.ownBlock = (Value.slice p es.length c).ownBlock ∨ ∃ r, v'.ownBlock = some r ∧ V.heap.size ≤ r) (B : Nat) :
    w'.cell? ⟨N, 1, none⟩ = some (.slice p es.length c) ∧ w'.frozen? ⟨N, 1, none⟩ = false ∧ w'.cell? ⟨N + 1, 0, none⟩ = some (.pointer (some ⟨N, 0, none⟩)) ∧ (w'.setCell ⟨N, 1, none⟩ v').cell? ⟨N + 1, 0, none⟩ = some (.pointer (some ⟨N, 0, none⟩)) ∧
      (KeepsFrom B W (w'.setCell ⟨N, 1, none⟩ v') ∧ Below N W (w'.setCell ⟨N, 1, none⟩ v') ∧ CpC X0 (w'.setCell ⟨N, 1, none⟩ v') N (es ++ [x])) := by
  obtain ⟨c1, f1, hbag, ht⟩ := hM.newRow rfl hg hrow hh
  have hne : ∀ a, p = some a → N + 1 ≠ a.block := fun a ha e => by
    obtain ⟨cur, hc⟩ := hM.cells ha
    have hx := h.box.lt
    have := (hA.block _ hx).trans h.box
    rw [e, hc] at this
    injection this with this
    injection this with _ this
    revert this
    decide
  have hV1 : N + 1 < V.heap.size := Nat.lt_of_lt_of_le h.box.lt hA.size
  have bV : Boxed V (N + 1) 46 (.pointer (some ⟨N, 0, none⟩)) := (hA.block _ h.box.lt).trans h.box
  have hne2 : some (N + 1) ≠ (Value.slice p es.length c).ownBlock := by
    cases p with
    | none => simp [Value.ownBlock]
    | some a => simp only [Value.ownBlock]; intro e; injection e with e; exact hne a rfl e
  have bw : Boxed w' (N + 1) 46 (.pointer (some ⟨N, 0, none⟩)) := (hg.block _ hV1 hne2).trans bV
  have bS : Boxed (w'.setCell ⟨N, 1, none⟩ v') (N + 1) 46 (.pointer (some ⟨N, 0, none⟩)) := (ht.block _ hV1 (by omega) hne).trans bV
  have hbl : Below N W (w'.setCell ⟨N, 1, none⟩ v') := (hA.mono (by have := h.box.lt; omega)).trans (ht.below (Nat.le_refl _) (fun a ha => (hM.own ha).1) (by omega))
  refine ⟨c1, f1, bw.cell, bS.cell, ⟨Nat.le_trans hA.size ht.size, fun k o _ hk ho => ?_⟩, hbl, hbag, bS, h.bel.trans hbl⟩
  have hkW := (Array.getElem?_eq_some_iff.1 hk).1
  have hkV := (hA.block k hkW).trans hk
  refine (ht.block k (Nat.lt_of_lt_of_le hkW hA.size) (fun e => ?_) (fun a ha e => ?_)).trans hkV
  · rw [e, hM.head] at hkV; injection hkV with hkV; rw [← hkV] at ho; cases ho
  · obtain ⟨cur, hc⟩ := hM.cells ha
    rw [e, hc] at hkV; injection hkV with hkV; rw [← hkV] at ho; cases ho

set_option maxHeartbeats 3200000 in
set_option maxRecDepth 100000 in
theorem copyC {W : World} {base b : Nat} {p : Option Addr} {c : Nat} {l : List (Int × Int)} (h : MapC W base b p c l) (hn : l.length ≤ 1000000) :
    Calls Try.prog 35 #[.pointer (some ⟨b, 0, none⟩)] W fun e w' => ∃ b' p' c', e = .returned (.pointer (some ⟨b', 0, none⟩)) ∧ MapC w' W.heap.size b' p' c' l ∧ Below W.heap.size W w' := by
  suffices hh : CallsIn Fence.wide 10 Try.prog 35 #[.pointer (some ⟨b, 0, none⟩)] W fun e w' => ∃ b' p' c', e = .returned (.pointer (some ⟨b', 0, none⟩)) ∧ MapC w' W.heap.size b' p' c' l ∧ Below W.heap.size W w' from callsIn_wide.1 hh
  have h1 : 1 ≤ 10 := by omega
  have HV := Lib.hid (validC h)
  have H := Lib.hid h
  have hpw : ∀ a, p = some a → a.block < W.heap.size := fun a ha => (h.own ha).2
  clear h
  refine callsIn_of_wp_marks Try.func35 rfl trivial ?_ rfl
  simp only [Try.ntmps35, List.size_toArray, List.length_nil, List.length_cons, Nat.reduceAdd, Nat.reduceSub, Array.replicate_succ, Array.replicate_zero, List.push_toArray, List.append_toArray, List.nil_append, List.cons_append]
  gi_wp2_with fail
  refine ⟨trivial, (callsIn_wide.2 HV.out).mono ?_⟩
  rintro e W0 ⟨rfl, hw0⟩
  obtain rfl : W = W0 := hw0.symm
  gi_wp2_with fail
  refine ⟨trivial, (callsIn_wide.2 (newC W)).mono ?_⟩
  rintro e W1 ⟨rfl, hM1, hb1, hs1⟩
  gi_wp2_with fail
  refine ⟨trivial, (callsIn_wide.2 (allMakeC _ _)).mono ?_⟩
  rintro e W3 ⟨rfl, rfl⟩
  gi_wp2_with fail
  obtain ⟨N, hN⟩ : ∃ N, N = W.heap.size := ⟨_, rfl⟩
  obtain ⟨X, hX⟩ : ∃ X, X = (W1.alloc (.cells #[.pointer (some ⟨W.heap.size, 0, none⟩)] 46)).alloc (.cells #[.pointer (some ⟨b, 0, none⟩)] 46) := ⟨_, rfl⟩
  have hXs : X.heap.size = N + 3 := by rw [hX, hN]; simp [hs1]
  have hWX : Below W1.heap.size W1 X := by rw [hX]; exact ((Below.refl _ _).alloc (Nat.le_refl _) _).alloc (by simp) _
  have hb0 : Below N W X := by rw [hN]; exact hb1.trans (hWX.mono (by omega))
  have bC : Boxed X (N + 1) 46 (.pointer (some ⟨N, 0, none⟩)) := by rw [hX, hN]; exact (boxed_at hs1 _ _).alloc _
  have bM : Boxed X (N + 2) 46 (.pointer (some ⟨b, 0, none⟩)) := by rw [hX, hN]; exact boxed_at (by simp [hs1]) _ _
  have hMX : MapC X N N none 0 [] := by rw [hN]; exact hM1.below hWX
  have hMb : MapC X base b p c l := H.out.below (hb0.mono (by omega))
  have h0 : CpC W X N [] := ⟨⟨none, 0, hMX.head, hMX.row, hMX.apart⟩, bC, hb0⟩
  rw [← hX, ← hN]
  rw [← hN] at hpw
  obtain ⟨f, hf⟩ : ∃ f : Nat → Int × Int, ∀ j x, l[j]? = some x → f j = x := ⟨fun i => l.getD i (0, 0), fun j x hx => by simp [List.getD_eq_getElem?_getD, hx]⟩
  have hseq := allIdxC (10 - 1) (by omega) hn (N + 1 + 1) N X bM.cell hMb hpw (by omega) f hf
  have H0 := Lib.hid h0
  have HF := Lib.hid hf
  have HN := Lib.hid hN
  clear hN hX hWX hM1 hb1 hs1 hMX hMb bC bM h0 hb0 HV hf
  refine rangeG (encs := fun i => encC (f i)) (fun x T => ((((T.setIfInBounds 12 (.int .i64 (f x).1)).setIfInBounds 13 (.int .i64 (f x).2)).setIfInBounds 4 (.int .i64 (f x).1)).setIfInBounds 5 (.int .i64 (f x).2))) rfl h1 (gf := 124) (lb := #[.pointer (some ⟨N + 1 + 1, 0, none⟩)]) rfl trivial (enters_of Try.func124 (by kernel_rfl) rfl)
    hseq belowK_t (belowK_b (by omega)) (Below.refl _ _) (fun _ => rfl) (fun pre W' => CpC W W' N (pre.map f)) (fun _ _ _ => False) (cpC_from (by omega) _) (fun _ _ _ _ _ h _ _ => h) H0.out ?assignC ?bodyC ?doneC ?stopC
  case assignC =>
    intro lr x W' K hK
    clear hXs
    unfold encC
    gi_wp2
    exact hK
  case stopC => exact fun _ _ _ _ _ _ h => h.elim
  case bodyC =>
    intro lr pre x V hI hlt
    obtain ⟨kx, vx, hxp⟩ : ∃ k v, f x = (k, v) := ⟨_, _, rfl⟩
    have hel : (pre.map f).length ≤ 1000000 := by rw [List.length_map]; omega
    have hmap : (pre ++ [x]).map f = pre.map f ++ [(kx, vx)] := by rw [List.map_append, List.map_singleton, hxp]
    rw [hxp]
    generalize pre.map f = es at *
    obtain ⟨⟨p1, c1, hB⟩, hx1, hbl⟩ := id hI
    have hc3 : V.drew.cell? ⟨N + 1, 0, none⟩ = some (.pointer (some ⟨N, 0, none⟩)) := hx1.cell
    have hBd : BagC V.drew N p1 c1 es := hB.below (Below.refl _ _).drew
    have hcp : V.drew.cell? ⟨N, 1, none⟩ = some (.slice p1 es.length c1) := by simp [World.cell?, hBd.head]
    obtain ⟨A, hA⟩ : ∃ A, A = (V.alloc (.cells #[.int .i64 kx, .int .i64 vx] 181)).drew := ⟨_, rfl⟩
    have hVA : Below V.heap.size V A := by rw [hA]; exact ((Below.refl _ _).alloc (Nat.le_refl _) _).drew
    have hBA : BagC A N p1 c1 es := hB.below hVA
    have hA3 : A.cell? ⟨N + 1, 0, none⟩ = some (.pointer (some ⟨N, 0, none⟩)) := (hVA.cell (p := ⟨N + 1, 0, none⟩) hx1.lt).trans hx1.cell
    have hAp : A.cell? ⟨N, 1, none⟩ = some (.slice p1 es.length c1) := by simp [World.cell?, hBA.head]
    have hAn : A.heap[V.heap.size]? = some (.cells (celC (kx, vx)).toArray 181 (0, 0)) := by rw [hA]; exact heap_alloc_new V _
    obtain ⟨i0, hi, hz0, hz1, hz2⟩ := info_parts infoPairC
    obtain ⟨v', w', hr, hrow, hg, hh⟩ := run_append_elem (P := Try.prog) A N 2 16 V.heap.size 176 176 181 i0 _ Try.underlying176 hi hz0 hz1 hz2 rfl (.slice p1 es.length c1) (es.map celC) (celC (kx, vx)) hBA.row (celC_ok _) hAn (by simpa using hel) (by omega) (by have := hBA.lt; omega)
    obtain ⟨q, m', c', rfl⟩ : ∃ q m' c', v' = .slice q m' c' := by
      rcases hrow.parts with ⟨e1, _⟩ | ⟨g, cap, cur, e1, _⟩
      · exact ⟨_, _, _, e1⟩
      · exact ⟨_, _, _, e1⟩
    obtain ⟨d1, d2, d3, d4, hfin⟩ := hI.put (x := (kx, vx)) hVA hBA hg (by rw [List.map_append]; exact hrow) hh X.heap.size
    rw [← hmap] at hfin
    clear hXs
    have HFIN := Lib.hid hfin
    clear hfin hrow hg hh hAn hBA hVA hB hBd hx1 hbl hI hmap hxp hel hi hz0 hz1 hz2 H0 HF H
    gi_wp2_with fail
    refine wpIn_region_round_held (fun w' => w'.cell? ⟨N + 1, 0, none⟩ = some (.pointer (some ⟨N, 0, none⟩))) (by kernel_rfl) (by kernel_rfl) (fun ⟨_, _, hq⟩ => hq) hc3 (fun hS0 => ?_)
    refine takeL (i := 0) (v := ?v0) rfl (by kernel_rfl) (by kernel_rfl) (by kernel_rfl) (fun _ _ _ h => h) (Or.inl ⟨by rfl, ?h0⟩) (by assumption) ?_
    case h0 =>
      intro w hSw
      try dsimp only at hSw
      go_simp
      try with_reducible rfl
    try simp only [Act.put, List.setIfInBounds_toArray, List.set_cons_zero, List.set_cons_succ]
    refine takeL (i := 1) (v := ?v1) rfl (by kernel_rfl) (by kernel_rfl) (by kernel_rfl) (fun _ _ _ h => h) (Or.inl ⟨by rfl, ?h1⟩) (by assumption) ?_
    case h1 =>
      intro w hSw
      try dsimp only at hSw
      go_simp
      try with_reducible rfl
    try simp only [Act.put, List.setIfInBounds_toArray, List.set_cons_zero, List.set_cons_succ]
    refine takeL (i := 2) (v := ?v2) rfl (by kernel_rfl) (by kernel_rfl) (by kernel_rfl) (fun _ _ _ h => h) (Or.inl ⟨by rfl, ?h2⟩) (by assumption) ?_
    case h2 =>
      intro w hSw
      try dsimp only at hSw
      go_simp
      try with_reducible rfl
    try simp only [Act.put, List.setIfInBounds_toArray, List.set_cons_zero, List.set_cons_succ]
    refine takeL (i := 3) (v := ?v3) rfl (by kernel_rfl) (by kernel_rfl) (by kernel_rfl) (fun _ _ _ h => h) (Or.inl ⟨by rfl, ?h3⟩) (by assumption) ?_
    case h3 =>
      intro w hSw
      try dsimp only at hSw
      go_simp
      try with_reducible rfl
    try simp only [Act.put, List.setIfInBounds_toArray, List.set_cons_zero, List.set_cons_succ]
    refine takeL (i := 5) (v := ?v5) rfl (by kernel_rfl) (by kernel_rfl) (by kernel_rfl) (fun _ _ _ h => h) (Or.inl ⟨by rfl, ?h5⟩) (by assumption) ?_
    case h5 =>
      intro w hSw
      try dsimp only at hSw
      go_simp
      try with_reducible rfl
    try simp only [Act.put, List.setIfInBounds_toArray, List.set_cons_zero, List.set_cons_succ]
    refine takeL (i := 6) (v := ?v6) rfl (by kernel_rfl) (by kernel_rfl) (by kernel_rfl) (fun _ _ _ h => h) (Or.inl ⟨by rfl, ?h6⟩) (by assumption) ?_
    case h6 =>
      intro w hSw
      try dsimp only at hSw
      go_simp
      try with_reducible rfl
    try simp only [Act.put, List.setIfInBounds_toArray, List.set_cons_zero, List.set_cons_succ]
    refine takeL (i := 7) (v := ?v7) rfl (by kernel_rfl) (by kernel_rfl) (by kernel_rfl) (fun _ _ _ h => h) (Or.inl ⟨by rfl, ?h7⟩) (by assumption) ?_
    case h7 =>
      intro w hSw
      try dsimp only at hSw
      go_simp
      try with_reducible rfl
    try simp only [Act.put, List.setIfInBounds_toArray, List.set_cons_zero, List.set_cons_succ]
    refine wpAnyH_ready (rs := [4, 8]) (by kernel_rfl) (by simp) ?_
    refine consL (i := 4) rfl (fun K hK => ?_) (consL (i := 8) rfl (fun K hK => ?_) AllReadyH.nil)
    · go_simp
      refine hK.out _ _ hc3 (fun _ => ?_)
      clear hK K
      try simp only [Act.put, List.setIfInBounds_toArray, List.set_cons_zero, List.set_cons_succ]
      refine wpAnyH_ready (rs := [8]) (by kernel_rfl) (by simp) ?_
      refine consL (i := 8) rfl (fun K hK => ?_) AllReadyH.nil
      go_simp
      rw [← hA]
      refine hK.out _ _ hA3 (fun _ => ?_)
      clear hK K hA hc3 hcp
      try simp only [Act.put, List.setIfInBounds_toArray, List.set_cons_zero, List.set_cons_succ]
      refine wpAnyH_ready (rs := [9]) (by kernel_rfl) (by simp) ?_
      refine consL (i := 9) rfl (fun K hK => ?_) AllReadyH.nil
      refine step_append_run rfl (.tmp 18) (.tmp 22) _ _ rfl _ _ rfl rfl hr ?_
      refine hK.out _ _ d3 (fun _ => ?_)
      clear hK K
      try simp only [Act.put, List.setIfInBounds_toArray, List.set_cons_zero, List.set_cons_succ]
      refine wpAnyH_ready (rs := [10]) (by kernel_rfl) (by simp) ?_
      refine consL (i := 10) rfl (fun K hK => ?_) AllReadyH.nil
      go_simp
      refine hK.out _ _ d3 (fun _ => ?_)
      clear hK K
      try simp only [Act.put, List.setIfInBounds_toArray, List.set_cons_zero, List.set_cons_succ]
      refine wpAnyH_ready (rs := [11]) (by kernel_rfl) (by simp) ?_
      refine consL (i := 11) rfl (fun K hK => ?_) AllReadyH.nil
      go_simp
      refine hK.out _ _ d3 (fun _ => ?_)
      clear hK K
      try simp only [Act.put, List.setIfInBounds_toArray, List.set_cons_zero, List.set_cons_succ]
      refine wpAnyH_ready (rs := [12]) (by kernel_rfl) (by simp) ?_
      refine consL (i := 12) rfl (fun K hK => ?_) AllReadyH.nil
      go_simp
      refine hK.out _ _ d4 (fun _ => ?_)
      clear hK K
      try simp only [Act.put, List.setIfInBounds_toArray, List.set_cons_zero, List.set_cons_succ]
      refine wpAnyH_done (by kernel_rfl) ?_ _
      exact HFIN.out
    · go_simp
      rw [← hA]
      refine hK.out _ _ hA3 (fun _ => ?_)
      clear hK K hA hc3 hcp
      try simp only [Act.put, List.setIfInBounds_toArray, List.set_cons_zero, List.set_cons_succ]
      refine wpAnyH_ready (rs := [4]) (by kernel_rfl) (by simp) ?_
      refine consL (i := 4) rfl (fun K hK => ?_) AllReadyH.nil
      go_simp
      refine hK.out _ _ hA3 (fun _ => ?_)
      clear hK K
      try simp only [Act.put, List.setIfInBounds_toArray, List.set_cons_zero, List.set_cons_succ]
      refine wpAnyH_ready (rs := [9]) (by kernel_rfl) (by simp) ?_
      refine consL (i := 9) rfl (fun K hK => ?_) AllReadyH.nil
      refine step_append_run rfl (.tmp 18) (.tmp 22) _ _ rfl _ _ rfl rfl hr ?_
      refine hK.out _ _ d3 (fun _ => ?_)
      clear hK K
      try simp only [Act.put, List.setIfInBounds_toArray, List.set_cons_zero, List.set_cons_succ]
      refine wpAnyH_ready (rs := [10]) (by kernel_rfl) (by simp) ?_
      refine consL (i := 10) rfl (fun K hK => ?_) AllReadyH.nil
      go_simp
      refine hK.out _ _ d3 (fun _ => ?_)
      clear hK K
      try simp only [Act.put, List.setIfInBounds_toArray, List.set_cons_zero, List.set_cons_succ]
      refine wpAnyH_ready (rs := [11]) (by kernel_rfl) (by simp) ?_
      refine consL (i := 11) rfl (fun K hK => ?_) AllReadyH.nil
      go_simp
      refine hK.out _ _ d3 (fun _ => ?_)
      clear hK K
      try simp only [Act.put, List.setIfInBounds_toArray, List.set_cons_zero, List.set_cons_succ]
      refine wpAnyH_ready (rs := [12]) (by kernel_rfl) (by simp) ?_
      refine consL (i := 12) rfl (fun K hK => ?_) AllReadyH.nil
      go_simp
      refine hK.out _ _ d4 (fun _ => ?_)
      clear hK K
      try simp only [Act.put, List.setIfInBounds_toArray, List.set_cons_zero, List.set_cons_succ]
      refine wpAnyH_done (by kernel_rfl) ?_ _
      exact HFIN.out
  case doneC =>
    rintro D xs Z hD rfl hI hK3
    have hl : (List.range l.length).map f = l := by
      apply List.ext_getElem (by simp)
      intro j h2 h3
      rw [List.getElem_map, List.getElem_range]
      exact HF.out j _ (List.getElem?_eq_getElem h3)
    rw [hl] at hI
    have hc := hI.box.cell
    have HI := Lib.hid hI
    have hXb : Hid (N + 3 ≤ D) := by show _ ≤ _; omega
    clear hI hseq hXs
    gi_wp2_with fail
    obtain ⟨⟨p', c', hb⟩, hx, hbel⟩ := HI.out
    refine ⟨by simp, .inl ⟨_, _, rfl, run_takeDeferred hK3, ?_⟩⟩
    have hd0 : N < D := by have := hXb.out; omega
    have hbZ : BagC (Z.putObj D (.deferred none)) N p' c' l := by
      refine hb.same (World.putObj_heap_other (by omega)) (fun a ha => World.putObj_heap_other (fun e => ?_))
      obtain ⟨cur, hcc⟩ := hb.cells ha
      rw [e, hK3] at hcc
      cases hcc
    refine ⟨.pointer (some ⟨N, 0, none⟩), by simp [results, Try.f35, go_sem], N, p', c', rfl, ?_, ?_⟩
    · rw [← HN.out]
      exact ⟨hbZ.head, Nat.le_refl _, hbZ.row, hbZ.apart, H.out.srt⟩
    · rw [← HN.out]
      exact hbel.grown (grownBy_putObj' _ D (.deferred none)) (by have := hb.lt; omega) (fun k e => by cases e; omega)
end Go.Proofs.Ytpnhklehpilopaa
