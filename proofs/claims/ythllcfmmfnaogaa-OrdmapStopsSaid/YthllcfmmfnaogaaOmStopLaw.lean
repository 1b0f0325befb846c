/- OrdmapStops: the walk. DRAFT, never built. -/
import Derived.Test.YthllcfmmfnaogaaOmStand
import Derived.Test.YthllcfmmfnaogaaOmRow0
import Derived.Test.YthllcfmmfnaogaaOmWorks
import Derived.Test.YthllcfmmfnaogaaOmRange2
import Derived.Sort.MapsRangeIn
import Derived.Deep.QuietTactic
import Derived.BigQuiet
import Derived.Outline
import Derived.Maps.AppendAt
namespace Go.Proofs.Ythllcfmmfnaogaa
open Go Go.RowKit Go.Maps

attribute [local go_sem] Oper.semAt_some

/-- What stands: the count at which to stop, both maps, the Go map's box. -/
structure StandS (W : World) (sb b gb wb st : Nat) (p : Option Addr) (c : Nat) (l : List (Int × Int)) (D : DataW Unit) : Prop where
  sbox : Boxed W sb 5 (.int .u8 (st : Nat))
  map : MapC W b b p c l
  own : W.ownsMap Try.prog 3 (plainElem Try.prog 3) gb 100 D
  wbox : Boxed W wb 47 (.map (some gb))

/-- What leaves everything below B alone leaves it standing, if it lies below B. -/
theorem StandS.low {W W' : World} {B sb b gb wb st : Nat} {p : Option Addr} {c : Nat} {l : List (Int × Int)} {D : DataW Unit} (h : StandS W sb b gb wb st p c l D) (hb : Below B W W') (h1 : sb < B) (h2 : b < B) (h3 : gb < B) (h4 : wb < B) (h5 : ∀ a, p = some a → a.block < B) : StandS W' sb b gb wb st p c l D :=
  ⟨(hb.block _ h1).trans h.sbox, h.map.same hb.size (hb.block _ h2) (fun a ha => hb.block _ (h5 a ha)), ownsMap_same h.own (hb.block _ h3), (hb.block _ h4).trans h.wbox⟩

/-- The length of the Go map. -/
theorem len_own {W : World} {gb nn : Nat} {l : List (Int × Int)} {D : DataW Unit} (h : W.ownsMap Try.prog 3 (plainElem Try.prog 3) gb nn D) (hag : Ag D l) (ty : TypeId) : (Builtin.len_ #[47] ty #[.map (some gb)]).run Try.prog W = .ok (.int .i64 l.length) W := by
  have := h.len Try.underlying47 ty
  rwa [hag.size] at this

theorem assign2o (i j : Nat) (c d : Value) (T : Array Value) :
    Array.foldl (fun t x => t.setIfInBounds x.fst x.snd) T (#[i, j].zip #[c, d]) = (T.setIfInBounds i c).setIfInBounds j d := by
  simp

theorem range_of_prefix {pre : List Nat} {N : Nat} (h : pre <+: List.range N) : pre = List.range pre.length := by
  have h1 := h.length_le
  rw [List.length_range] at h1
  obtain ⟨t, e⟩ := h
  apply List.ext_getElem (by simp)
  intro j hj _
  have : (pre ++ t)[j]'(by rw [e]; simp; omega) = pre[j] := List.getElem_append_left hj
  rw [List.getElem_range, ← this]
  simp only [e, List.getElem_range]

set_option maxHeartbeats 8000000 in
set_option maxRecDepth 100000 in
theorem ordmapStops_in (n : Nat) (hn : 10 ≤ n) (a : Option Addr) (len cap : Nat) (xs : List (Bool × Int × Int)) (hlen : xs.length = len) (hcap : len ≤ cap) (hc63 : cap ≤ 9223372036854775807) (key : Int) (st : Nat) (hst : st ≤ 255) (w : World) (hX : CallsAt w w.heap.size a xs) :
    CallsIn Fence.wide n Try.prog 5 #[.slice a len cap, .int .i64 key, .int .u8 (st : Nat)] w fun e w' => e = .returned (.bool true) ∧ Below w.heap.size w w' := by
  have h1 : 1 ≤ n := by omega
  have hA0 : Below w.heap.size w (w.alloc (.cells #[.int .u8 (st : Nat)] 5)) := (Below.refl _ _).alloc (Nat.le_refl _) _
  have hf := filled_any a len cap xs hlen hcap hc63 (w.alloc (.cells #[.int .u8 (st : Nat)] 5)) (by
    intro j x hx
    obtain ⟨⟨g, o, h⟩, hr⟩ := (hX.below hA0) j x hx
    exact ⟨⟨g, o, h.1, by simp; omega, h.2.2⟩, hr⟩)
  have hsb : Boxed (w.alloc (.cells #[.int .u8 (st : Nat)] 5)) w.heap.size 5 (.int .u8 (st : Nat)) := Boxed.new _ _ _
  simp only [World.size_alloc] at hf
  have HF := Lib.hid hf
  have HSB := Lib.hid hsb
  have HA0 := Lib.hid hA0
  clear hf hX hsb hA0
  refine callsIn_of_wp_marks Try.func5 rfl trivial ?_ rfl
  simp only [Try.ntmps5, List.size_toArray, List.length_nil, List.length_cons, Nat.reduceAdd, Nat.reduceSub, Array.replicate_succ, Array.replicate_zero, List.push_toArray, List.append_toArray, List.nil_append, List.cons_append]
  gi_wp2_with fail
  refine ⟨trivial, (callsIn_wide.2 HF.out).mono ?_⟩
  rintro e W1 ⟨rfl, ⟨p, c, l, D, hM, hown, hag, hll, hrg, hpb⟩, hb1⟩
  have hsz1 := hb1.size
  have hml := ownsMap_lt hown
  have hblt := hM.lt
  have hpK : ∀ a, p = some a → a.block < W1.heap.size := fun a ha => (hM.own ha).2
  have hsb1 : Boxed W1 w.heap.size 5 (.int .u8 (st : Nat)) := (hb1.block _ (by omega)).trans HSB.out
  have hb01 := HA0.out.trans (hb1.mono (by omega))
  have hST : ∀ W', Below W1.heap.size (W1.alloc (.cells #[.map (some (w.heap.size + 1 + 1))] 47)) W' → Boxed W' W1.heap.size 47 (.map (some (w.heap.size + 1 + 1))) → StandS W' w.heap.size (w.heap.size + 1) (w.heap.size + 1 + 1) W1.heap.size st p c l D := fun W' hb hw => by
    have hb' : Below W1.heap.size W1 W' := ((Below.refl W1.heap.size W1).alloc (Nat.le_refl _) _).trans hb
    exact ⟨(hb'.block _ (by omega)).trans hsb1, hM.below hb', ownsMap_same hown (hb'.block _ hml), hw⟩
  have HST := Lib.hid hST
  have HAG := Lib.hid hag
  have HRG := Lib.hid hrg
  have HB1 := Lib.hid hb01
  clear hST hag hrg hb01 hsb1 hM hown hpb hb1 HF HSB HA0
  gi_wp2_with fail
  refine ⟨trivial, (callsIn_wide.2 (fromMakeC _ key _)).mono ?_⟩
  rintro e W2 ⟨rfl, rfl⟩
  gi_wp2_with fail
  refine ⟨trivial, (callsIn_wide.2 (yieldsC _ _ _)).mono ?_⟩
  rintro e W2 ⟨rfl, rfl⟩
  gi_wp2_with fail
  obtain ⟨S, hS⟩ : ∃ S, S = W1.heap.size := ⟨_, rfl⟩
  obtain ⟨X, hX⟩ : ∃ X, X = ((((W1.alloc (.cells #[.map (some (w.heap.size + 1 + 1))] 47)).alloc (.cells #[.pointer (some ⟨w.heap.size + 1, 0, none⟩)] 46)).alloc (.cells #[.int .i64 key] 3)).alloc (.cells #[.slice none 0 0] 53)).alloc (.cells #[.slice none 0 0] 53) := ⟨_, rfl⟩
  have hXs : X.heap.size = S + 5 := by rw [hX, hS]; simp
  have hXb : Below S (W1.alloc (.cells #[.map (some (w.heap.size + 1 + 1))] 47)) X := by rw [hX, hS]; exact ((((Below.refl _ _).alloc (by simp) _).alloc (by simp; omega) _).alloc (by simp; omega) _).alloc (by simp; omega) _
  have bw : Boxed X S 47 (.map (some (w.heap.size + 1 + 1))) := by rw [hX]; exact ((((boxed_at hS.symm _ _).alloc _).alloc _).alloc _).alloc _
  have bm : Boxed X (S + 1) 46 (.pointer (some ⟨w.heap.size + 1, 0, none⟩)) := by rw [hX]; exact (((boxed_at (by simp [hS]) _ _).alloc _).alloc _).alloc _
  have bk : Boxed X (S + 2) 3 (.int .i64 key) := by rw [hX]; exact ((boxed_at (by simp [hS]) _ _).alloc _).alloc _
  have bF : Boxed X (S + 3) 53 (.slice none 0 0) := by rw [hX]; exact (boxed_at (by simp [hS]) _ _).alloc _
  have bG : Boxed X (S + 4) 53 (.slice none 0 0) := by rw [hX]; exact boxed_at (by simp [hS]) _ _
  rw [← hX, ← hS]
  rw [← hS] at hsz1 hml hblt hpK HST
  have HBX : Hid (Below w.heap.size w X) := Lib.hid (HB1.out.trans (by rw [hX]; exact (((((Below.refl _ _).alloc (by simp at hsz1; omega) _).alloc (by simp at hsz1 ⊢; omega) _).alloc (by simp at hsz1 ⊢; omega) _).alloc (by simp at hsz1 ⊢; omega) _).alloc (by simp at hsz1 ⊢; omega) _))
  clear hX
  obtain ⟨zs, hzs⟩ : ∃ zs, zs = l.drop (kRank ltI l key) := ⟨_, rfl⟩
  have hzl : zs.length ≤ l.length := by rw [hzs, List.length_drop]; omega
  have HX : Hid (∀ W, Below S X W → Boxed W S 47 (.map (some (w.heap.size + 1 + 1))) → StandS W w.heap.size (w.heap.size + 1) (w.heap.size + 1 + 1) S st p c l D) := Lib.hid fun W hb hbx => HST.out W (hXb.trans hb) hbx
  obtain ⟨i0, hi, hz0, hz1, hz2⟩ := info_parts infoInt
  have hsl : w.heap.size < S := by simp at hsz1; omega
  have hseq := fromIdxC (n - 1) (by omega) key (by omega) (S + 1) (S + 1 + 1) (S + 3) X bm.cell bk.cell (HX.out X (Below.refl _ _) bw).map (fun a ha => by have := hpK a ha; omega) (by omega) (pickI zs) (fun j x hx => pickI_at (by rw [hzs]; exact hx))
  rw [← hzs] at hseq
  have HZS := Lib.hid hzs
  clear hS hzs HST hXb
  refine rangeGB (encs := fun i => encC (pickI zs i)) (fun x T => ((T.setIfInBounds 38 (.int .i64 (pickI zs x).1)).setIfInBounds 39 (.int .i64 (pickI zs x).2)).setIfInBounds 13 (.int .i64 (pickI zs x).1)) 0 rfl h1 (gf := 119) (lb := #[.pointer (some ⟨S + 1, 0, none⟩), .pointer (some ⟨S + 1 + 1, 0, none⟩)]) rfl trivial (enters_of Try.func119 (by kernel_rfl) rfl)
    hseq belowK_t (belowK_b (by omega)) (Below.refl _ _) (fun _ => rfl)
    (fun pre W => ((∃ v, Boxed W (S + 3) 53 v ∧ W.ownsRow (S + 3) 3 1 v pre.length (pre.map fun x => Value.int .i64 (pickI zs x).1) ∧ pre.length ≤ st) ∧ (∃ v, Boxed W (S + 4) 53 v ∧ W.ownsRow (S + 3) 3 1 v 0 [] ∧ v = .slice none 0 0)) ∧ Below (S + 3) X W)
    (fun pre W => ((∃ v, Boxed W (S + 3) 53 v ∧ W.ownsRow (S + 3) 3 1 v (pre.length - 1) (pre.dropLast.map fun x => Value.int .i64 (pickI zs x).1) ∧ pre.length = st + 1) ∧ (∃ v, Boxed W (S + 4) 53 v ∧ W.ownsRow (S + 3) 3 1 v 0 [] ∧ v = .slice none 0 0)) ∧ Below (S + 3) X W)
    (OwnFrom.and (OwnFrom.and (Own.from (holdsRow_own (S + 3) (S + 3) 53 3 1 (fun pre : List Nat => pre.length) (fun pre => pre.map fun x => Value.int .i64 (pickI zs x).1) (fun pre _ => pre.length ≤ st)) _) (Own.from (holdsRow_own (S + 3) (S + 4) 53 3 1 (fun _ : List Nat => 0) (fun _ => []) (fun _ v => v = .slice none 0 0)) _)) (ownFrom_below (by omega) (by omega)))
    (OwnFrom.and (OwnFrom.and (Own.from (holdsRow_own (S + 3) (S + 3) 53 3 1 (fun pre : List Nat => pre.length - 1) (fun pre => pre.dropLast.map fun x => Value.int .i64 (pickI zs x).1) (fun pre _ => pre.length = st + 1)) _) (Own.from (holdsRow_own (S + 3) (S + 4) 53 3 1 (fun _ : List Nat => 0) (fun _ => []) (fun _ v => v = .slice none 0 0)) _)) (ownFrom_below (by omega) (by omega)))
    ⟨⟨⟨_, bF, World.ownsRow_nil _ _ _ _, Nat.zero_le _⟩, ⟨_, bG, World.ownsRow_nil _ _ _ _, rfl⟩⟩, Below.refl _ _⟩ ?assign1 ?body1
    (fun W => ((∃ v, Boxed W (S + 3) 53 v ∧ W.ownsRow (S + 3) 3 1 v (min st zs.length) ((List.range (min st zs.length)).map fun x => Value.int .i64 (pickI zs x).1)) ∧ Boxed W (S + 4) 53 (.slice none 0 0)) ∧ Below (S + 3) X W) ?done1 ?stop1 ?q1 ?rest1
  case assign1 =>
    intro lr x W K hK
    unfold encC
    gi_wp2
    exact hK
  case done1 =>
    rintro ys W rfl ⟨⟨⟨v, h1, h2, h3⟩, ⟨u, h4, -, rfl⟩⟩, h5⟩
    rw [List.length_range] at h2 h3
    rw [Nat.min_eq_right h3]
    exact ⟨⟨⟨v, h1, h2⟩, h4⟩, h5⟩
  case stop1 =>
    rintro pre W hp ⟨⟨⟨v, h1, h2, h3⟩, ⟨u, h4, -, rfl⟩⟩, h5⟩
    have hN := hp.length_le
    rw [List.length_range] at hN
    have hpr := range_of_prefix hp
    rw [h3] at hpr h2
    have hd : pre.dropLast = List.range st := by rw [hpr, List.range_succ, List.dropLast_concat]
    rw [hd] at h2
    rw [Nat.min_eq_left (by omega)]
    exact ⟨⟨⟨v, h1, h2⟩, h4⟩, h5⟩
  case q1 =>
    intro a W hq
    exact hq
  case body1 =>
    rintro lr pre x W ⟨⟨⟨v, hv, hrow, hle⟩, ⟨u, hu, hur, rfl⟩⟩, hB⟩ hlt
    have hST := HX.out W (hB.mono (by omega)) ((hB.block S (by omega)).trans bw)
    obtain ⟨fp, fc, rfl, hfc, hfc63, -⟩ := ownsRow_parts hrow
    have hc := hv.cell
    have cst := hST.sbox.cell
    have cw := hST.wbox.cell
    have hlen := len_own hST.own HAG.out 3
    have HU := Lib.hid hu
    have HST1 := Lib.hid hST
    clear hST hu
    by_cases heq : pre.length = st
    · simp only [List.setIfInBounds_toArray, List.set_cons_succ, List.set_cons_zero]
      gi_wp2_with fail
      exact ⟨keepsFrom_below (Below.refl _ _), rfl, ⟨⟨_, hv, by simpa using hrow, by simp [heq]⟩, ⟨_, HU.out, World.ownsRow_nil _ _ _ _, rfl⟩⟩, hB⟩
    · have hne : ((pre.length : Int) == (st : Int)) = false := by rw [beq_eq_false_iff_ne]; omega
      have hne' : ¬ ((pre.length : Int) = (st : Int)) := by omega
      have hnl : ¬ ((l.length : Int) < (pre.length : Int)) := by omega
      have hbs := hB.size
      simp only [List.setIfInBounds_toArray, List.set_cons_succ, List.set_cons_zero]
      gi_wp2_with (gi_at_builtin; refine wpListIn_append_own _ rfl _ _ 53 rfl (S + 3) 3 i0 (.int .i64 0) 1 8 Try.underlying53 hi hz0 hz1 hz2 rfl (by decide) _ _ _ rfl (hrow.alloc _) ⟨W.heap.size, 0, none⟩ 1 1 [.int .i64 (pickI zs x).1] rfl rfl (cell_one_new _ _ _) (by simp [Value.oneCell']) (by unfold maxLen; omega) (by omega) (by simp; omega) ?_; intro v' w1 hown' hgrow _; obtain ⟨g', cap', rfl⟩ := ownsRow_succ hown'; obtain ⟨hv1, hv2, hr2, hk2, hb2⟩ := hv.appended (by decide) hrow (by omega) (Nat.le_refl _) hown' hgrow; have hu1 := boxed_beside HU.out (by decide) hrow hgrow (by omega : S + 4 ≠ S + 3) (.slice (some ⟨g', 0, none⟩) (pre.length + 1) cap'); have hc1 := hv1.cell; have hf1 := hv1.frozen)
      all_goals exact ⟨hk2.from _, hb2, ⟨⟨_, hv2, by simpa using hr2, by simp; omega⟩, hu1, World.ownsRow_nil _ _ _ _⟩, hB.trans hb2⟩
  case rest1 =>
    rintro D1 Y hD1 ⟨⟨⟨v, hv, hrow⟩, hu⟩, hB⟩ hK
    obtain ⟨fp, fc, rfl, hfc, hfc63, -⟩ := ownsRow_parts hrow
    have hXY := hB.size
    have HF1 := Lib.hid (And.intro hv hrow)
    have HK1 := Lib.hid hK
    have HB1Y := Lib.hid hB
    have hGY : Y.grownBy Y (some (S + 4)) := ⟨rfl, rfl, rfl, Nat.le_refl _, fun _ _ _ => rfl⟩
    have hseq2 := fromIdxC (n - 1) (by omega) key (by omega) (S + 1) (S + 1 + 1) (S + 3) Y ((hB.cell (p := ⟨S + 1, 0, none⟩) (by show S + 1 < S + 3; omega)).trans bm.cell) ((hB.cell (p := ⟨S + 1 + 1, 0, none⟩) (by show S + 1 + 1 < S + 3; omega)).trans bk.cell) (HX.out Y (hB.mono (by omega)) ((hB.block S (by omega)).trans bw)).map (fun a ha => by have := hpK a ha; omega) (by omega) (pickI zs) (fun j x hx => pickI_at (by rw [HZS.out]; exact hx))
    rw [← HZS.out] at hseq2
    clear hv hrow hK hB hseq
    gi_wp2_with fail
    refine ⟨trivial, (callsIn_wide.2 (yieldsC _ _ _)).mono ?_⟩
    rintro e Y' ⟨rfl, hw⟩
    obtain rfl : Y = Y' := hw.symm
    gi_wp2_with fail
    refine rangeGB (encs := fun i => encC (pickI zs i)) (fun x T => ((T.setIfInBounds 58 (.int .i64 (pickI zs x).1)).setIfInBounds 59 (.int .i64 (pickI zs x).2)).setIfInBounds 14 (.int .i64 (pickI zs x).1)) 2 rfl h1 (gf := 119) (lb := #[.pointer (some ⟨S + 1, 0, none⟩), .pointer (some ⟨S + 1 + 1, 0, none⟩)]) rfl trivial (enters_of Try.func119 (by kernel_rfl) rfl)
      hseq2 belowK_t (belowK_b (by omega)) (Below.refl _ _) (fun _ => rfl)
      (fun pre W => (∃ v, Boxed W (S + 4) 53 v ∧ W.ownsRow Y.heap.size 3 1 v pre.length (pre.map fun x => Value.int .i64 (pickI zs x).1) ∧ True) ∧ Y.grownBy W (some (S + 4)))
      (fun _ _ => False)
      (OwnFrom.and (Own.from (holdsRow_own Y.heap.size (S + 4) 53 3 1 (fun pre : List Nat => pre.length) (fun pre => pre.map fun x => Value.int .i64 (pickI zs x).1) (fun _ _ => True)) _) (ownFrom_grown (Nat.le_refl _)))
      (fun _ _ _ _ hs _ _ => hs)
      ⟨⟨_, hu, World.ownsRow_nil _ _ _ _, trivial⟩, hGY⟩ ?assign2 ?body2
      (fun W => (∃ v, Boxed W (S + 4) 53 v ∧ W.ownsRow Y.heap.size 3 1 v zs.length ((zs.map (·.1)).map fun x => Value.int .i64 x)) ∧ Y.grownBy W (some (S + 4))) ?done2 ?stop2 ?q2 ?rest2
    case assign2 =>
      intro lr x W K hK
      unfold encC
      gi_wp2
      exact hK
    case done2 =>
      rintro ys W rfl ⟨⟨v, h1, h2, -⟩, h5⟩
      rw [List.length_range, pickI_map] at h2
      exact ⟨⟨v, h1, h2⟩, h5⟩
    case stop2 =>
      intro pre W _ h
      exact h.elim
    case q2 =>
      intro a W hq
      exact hq
    case body2 =>
      rintro lr pre x W ⟨⟨v, hv, hrow, -⟩, hG⟩ hlt
      have hYW := hG.size
      have hbW : Below (S + 3) X W := HB1Y.out.trans ⟨hG.os, hG.tape, hG.output, hG.size, fun k hk => hG.block k (by omega) (by simp; omega)⟩
      have hST := HX.out W (hbW.mono (by omega)) ((hbW.block S (by omega)).trans bw)
      obtain ⟨qp, qc, rfl, hqc, hqc63, -⟩ := ownsRow_parts hrow
      have hc := hv.cell
      have cw := hST.wbox.cell
      have hrow4 : W.ownsRow (S + 4) 3 1 (.slice qp pre.length qc) pre.length (pre.map fun x => Value.int .i64 (pickI zs x).1) := ownsRow_mono hrow (by omega)
      have hnl : ¬ ((l.length : Int) < (pre.length : Int) + 1) := by omega
      have hST1 := Lib.hid hST
      have HGW := Lib.hid hG
      have HBW := Lib.hid hbW
      clear hST hG hbW
      simp only [List.setIfInBounds_toArray, List.set_cons_succ, List.set_cons_zero]
      gi_wp2_with (gi_at_builtin; refine wpListIn_append_own _ rfl _ _ 53 rfl Y.heap.size 3 i0 (.int .i64 0) 1 8 Try.underlying53 hi hz0 hz1 hz2 rfl (by decide) _ _ _ rfl (hrow.alloc _) ⟨W.heap.size, 0, none⟩ 1 1 [.int .i64 (pickI zs x).1] rfl rfl (cell_one_new _ _ _) (by simp [Value.oneCell']) (by unfold maxLen; omega) (by omega) (by simp; omega) ?_; intro v' w1 hown' hgrow _; obtain ⟨g', cap', rfl⟩ := ownsRow_succ hown'; obtain ⟨hv1, hv2, -, hk2, hb2⟩ := hv.appended (by decide) hrow4 (by omega) (Nat.le_refl _) (ownsRow_mono hown' (by omega)) hgrow; have hr2 := hown'.kept (grownBy_setCell' w1 (S + 4) (.slice (some ⟨g', 0, none⟩) (pre.length + 1) cap')) (.inr (hv1.not_row (by decide) hown').symm); have hg2 := grown_beside HGW.out hrow hgrow (.slice (some ⟨g', 0, none⟩) (pre.length + 1) cap'); have hw2 := (hST1.out.low (hb2.mono (Nat.le_refl _)) (by omega) (by omega) (by omega) (by omega) (fun a ha => by have := hpK a ha; omega)); have hc1 := hv1.cell; have hf1 := hv1.frozen; have hc2 := hv2.cell; have cw2 := hw2.wbox.cell; have hlen2 := len_own hw2.own HAG.out 3; have HL2 := Lib.hid (And.intro hv2 hw2); clear hv2 hw2)
      exact ⟨hk2.from _, hb2.mono (by omega), ⟨_, HL2.out.1, by simpa using hr2⟩, hg2⟩
    case rest2 =>
      rintro D2 Z hD2 ⟨⟨v, hv, hrow⟩, hG⟩ hK
      have hYZ := hG.size
      obtain ⟨qp, qc, rfl, hqc, hqc63, -⟩ := ownsRow_parts hrow
      obtain ⟨m, hm⟩ : ∃ m, m = min st zs.length := ⟨_, rfl⟩
      have hF := HF1.out
      rw [← hm] at hF
      have hmN : m ≤ zs.length := by omega
      have hmin : min (zs.length : Int) (st : Int) = (m : Int) := by omega
      have hbZ : Below (S + 3) X Z := HB1Y.out.trans ⟨hG.os, hG.tape, hG.output, hG.size, fun k hk => hG.block k (by omega) (by simp; omega)⟩
      have hST := HX.out Z (hbZ.mono (by omega)) ((hbZ.block S (by omega)).trans bw)
      have hf1 : Boxed Z (S + 3) 53 (.slice fp m fc) := (hG.block (S + 3) (by omega) (by simp)).trans hF.1
      have hr1 := hF.2.kept hG (.inr (hu.not_row (by decide) hF.2).symm)
      rw [take_keys zs hmN] at hr1
      have hrd1 := Lib.hid (reads_of_row hr1)
      have hrd2 := Lib.hid ((reads_of_row hrow).take m)
      have hkl : Hid (((zs.map (·.1)).take m).length = m) := Lib.hid (by rw [List.length_take, List.length_map, Nat.min_eq_left hmN])
      have c3 := hf1.cell
      have c4 := hv.cell
      have cst := hST.sbox.cell
      have cw := hST.wbox.cell
      have hlen := fun q => len_own (W := Z.drewN q) (ownsMap_same hST.own rfl) HAG.out 3
      have hnl : ¬ ((l.length : Int) < (zs.length : Int)) := by omega
      have hmq : (m : Int) ≤ (qc : Int) := by omega
      have hm0 : (0 : Int) ≤ (m : Int) := by omega
      have hwr : IntKind.i64.wrap (st : Int) = (st : Int) := by rw [IntKind.wrap_i64]; omega
      have hmq2 : m ≤ qc := by omega
      have hmin2 : min zs.length st = m := by omega
      have hmq3 : ¬ qc < m := by omega
      have HD1 : Hid (Z.heap[D1]? = some (.deferred (some []))) := Lib.hid ((hG.block D1 (Array.getElem?_eq_some_iff.1 HK1.out).1 (by simp; omega)).trans HK1.out)
      have HD2 := Lib.hid hK
      have HSTZ := Lib.hid hST
      have HBZ := Lib.hid hbZ
      have HNE : Hid (D1 ≠ D2) := Lib.hid (by have := (Array.getElem?_eq_some_iff.1 HK1.out).1; omega)
      clear hv hrow hG hK hF hm hbZ hST hf1 hr1 hu
      gi_wp2_with fail
      refine wpIn_wide.2 ?_
      go_quiet ((go_at_call 30; exact Calls.quiet_of ((hrd1.out.drewN _).same (hrd2.out.drewN _) hkl.out hkl.out (by omega) (by omega))))
      have hrQ : Below Z.heap.size Z (Z.drewN nq) := Below.drewN' nq (Below.refl _ _)
      have hmQ := HSTZ.out.map.below hrQ
      have hstQ : StandS (Z.drewN nq) w.heap.size (w.heap.size + 1) (w.heap.size + 1 + 1) S st p c l D := HX.out _ ((HBZ.out.mono (by omega)).trans (hrQ.mono (by have := HBZ.out.size; omega))) HSTZ.out.wbox
      clear hlen c3 c4 cst cw
      gi_wp2_with fail
      refine ⟨trivial, (callsIn_wide.2 (allMakeC _ _)).mono ?_⟩
      rintro e V ⟨rfl, hV⟩
      have hVb : Below Z.heap.size Z V := by rw [hV]; exact hrQ.alloc (Nat.le_refl _) _
      have bA : Boxed V Z.heap.size 46 (.pointer (some ⟨w.heap.size + 1, 0, none⟩)) := by rw [hV]; exact boxed_at rfl _ _
      have hZV : V.heap.size = Z.heap.size + 1 := by rw [hV]; simp
      clear hV hstQ hmQ hrQ
      gi_wp2_with fail
      refine ⟨trivial, (callsIn_wide.2 (yieldsC _ _ _)).mono ?_⟩
      rintro e V' ⟨rfl, hw⟩
      obtain rfl : V = V' := hw.symm
      gi_wp2_with fail
      have hMV := HSTZ.out.map.below hVb
      have hsZ := HBZ.out.size
      have HVB := Lib.hid hVb
      have HMV := Lib.hid hMV
      have hseq3 := allStopsC (n - 1) (by omega) (by omega) Z.heap.size S V bA.cell hMV hpK (by omega)
      clear hVb hMV
      refine rangeGB (encs := encC) (fun x T => (T.setIfInBounds 89 (.int .i64 x.1)).setIfInBounds 90 (.int .i64 x.2)) 4 rfl h1 (gf := 124) (lb := #[.pointer (some ⟨Z.heap.size, 0, none⟩)]) rfl trivial (enters_of Try.func124 (by kernel_rfl) rfl)
        hseq3 belowK_t (belowK_b (by omega)) (Below.refl _ _) (fun _ => rfl)
        (fun pre W => pre = [] ∧ Below V.heap.size V W) (fun _ W => Below V.heap.size V W)
        (OwnFrom.and (ownFrom_pure _ _) (ownFrom_below (Nat.le_refl _) (Nat.le_refl _))) (ownFrom_below (Nat.le_refl _) (Nat.le_refl _))
        ⟨rfl, Below.refl _ _⟩ ?assign3 ?body3 (fun W => Below V.heap.size V W) ?done3 ?stop3 ?q3 ?rest3
      case assign3 =>
        intro lr x W K hK
        unfold encC
        gi_wp2
        rw [assign2o]
        exact hK
      case done3 =>
        intro ys W _ h
        exact h.2
      case stop3 =>
        intro pre W _ h
        exact h
      case q3 =>
        intro a W hq
        exact hq
      case body3 =>
        rintro lr pre x W ⟨rfl, hB⟩ hlt
        gi_wp2_with fail
        exact ⟨keepsFrom_below (Below.refl _ _), rfl, hB⟩
      case rest3 =>
        rintro D3 U hD3 hB hK
        have hUV := hB.size
        have hUZ : Below Z.heap.size Z U := HVB.out.trans (hB.mono (by omega))
        have HUZ := Lib.hid hUZ
        have hM := HSTZ.out.map.below hUZ
        have HM := Lib.hid hM
        have HD3 := Lib.hid hK
        have hat1 := atC hM (-1) none (by simp)
        clear hB hK hUZ hM
        gi_wp2_with fail
        refine ⟨trivial, (callsIn_wide.2 hat1).mono ?_⟩
        rintro e U1 ⟨rfl, hb1⟩
        have HU1 := Lib.hid (HUZ.out.trans (hb1.mono HUZ.out.size))
        have HT1 := Lib.hid hb1
        clear hb1 hat1
        unfold tupEC
        gi_wp2_with fail
        refine ⟨trivial, (callsIn_wide.2 (lenC (HSTZ.out.map.below HU1.out))).mono ?_⟩
        rintro e U2 ⟨rfl, hw⟩
        obtain rfl : U1 = U2 := hw.symm
        gi_wp2_with fail
        refine ⟨trivial, (callsIn_wide.2 (atC (HSTZ.out.map.below HU1.out) (l.length : Int) none (by rw [if_pos (by omega), Int.toNat_natCast, List.getElem?_eq_none_iff.2 (Nat.le_refl _)]))).mono ?_⟩
        rintro e U2 ⟨rfl, hb1⟩
        have HU2 := Lib.hid (HU1.out.trans (hb1.mono HU1.out.size))
        have HT2 := Lib.hid (HT1.out.trans (hb1.mono HT1.out.size))
        clear hb1
        unfold tupEC
        have hstU : StandS U2 w.heap.size (w.heap.size + 1) (w.heap.size + 1 + 1) S st p c l D := HX.out _ ((HBZ.out.mono (by omega)).trans (HU2.out.mono (by have := HBZ.out.size; omega))) ((HU2.out.block S (by omega)).trans HSTZ.out.wbox)
        have cw := hstU.wbox.cell
        have hlen := fun q => len_own (W := U2.drewN q) (ownsMap_same hstU.own rfl) HAG.out 3
        have HSU := Lib.hid hstU
        clear hstU
        gi_wp2_with fail
        refine wpIn_wide.2 ?_
        go_quiet ((go_at_call 33; exact Calls.quiet_of_same (lenC (HSU.out.map.below (Below.drewN' _ (Below.refl _ _))))))
        obtain ⟨Q, hQ⟩ : ∃ Q, Q = U2.drewN nq := ⟨_, rfl⟩
        have hbQ : Below Z.heap.size Z Q := by rw [hQ]; exact Below.drewN' nq HU2.out
        have hownQ : Q.ownsMap Try.prog 3 (plainElem Try.prog 3) (w.heap.size + 1 + 1) 100 D := by rw [hQ]; exact ownsMap_same HSU.out.own rfl
        have hmQ : MapC Q (w.heap.size + 1) (w.heap.size + 1) p c l := HSTZ.out.map.below hbQ
        have HD3Q : Hid (Q.heap[D3]? = some (.deferred (some []))) := Lib.hid (by rw [hQ]; exact ((Below.drewN' nq HT2.out).block D3 (Array.getElem?_eq_some_iff.1 HD3.out).1).trans HD3.out)
        have HOWN := Lib.hid hownQ
        have HMQ := Lib.hid hmQ
        have HBQ := Lib.hid hbQ
        rw [← hQ]
        have cwQ : Q.cell? ⟨S, 0, none⟩ = some (.map (some (w.heap.size + 1 + 1))) := by rw [hQ]; exact cw
        have hgbQ := ownsMap_lt hownQ
        clear hQ hbQ hownQ hmQ cw hlen
        gi_wp2_with (gi_at_range; refine wpListIn_range_own _ rfl _ 47 rfl 3 3 lawInt Try.underlying47 (plainElem Try.prog 3) (w.heap.size + 1 + 1) 100 D rfl HOWN.out ?_; intro w0 hrg0 hg0 hs0)
        go_frame
        have hbase : Below Q.heap.size Q w0 := ⟨hg0.os, hg0.tape, hg0.output, hg0.size, fun k hk => hg0.block k hk (by simp)⟩
        have HKEEP : Hid (∀ W, Below Q.heap.size Q W → MapC W (w.heap.size + 1) (w.heap.size + 1) p c l) := Lib.hid fun W hb => HMQ.out.below hb
        gi_loopw [] (fun wr => ∃ left cnt, wr.ranges Try.prog 3 (plainElem Try.prog 3) (w.heap.size + 1 + 1) Q.heap.size 100 D left cnt ∧ (∀ z, left z = true → Maps.has D z = true) ∧ Below Q.heap.size Q wr) (fun wr => wr.rangeLeft (w.heap.size + 1 + 1) Q.heap.size)
        case atStart => exact ⟨_, _, hrg0, fun _ h => h, hbase⟩
        case round =>
          obtain ⟨left, cnt, hrg, hleft, hbr⟩ := hrel
          gi_wp2_with (gi_at_next; refine wpListIn_next_ranges _ rfl _ rfl 3 lawInt (plainElem Try.prog 3) (Value.int .i64) (Value.int .i64) (fun key kl hkey => by obtain ⟨x, rfl, _⟩ := Maps.keyOf_int_inv Try.underlying3 hkey; exact ⟨x, rfl⟩) (fun v y hv => by obtain ⟨c, rfl, _⟩ := plainElem_int_inv Try.underlying3 hv; exact ⟨c, rfl⟩) (w.heap.size + 1 + 1) Q.heap.size 100 D left cnt rfl hrg ?_ ?_; all_goals first | (intro x e kl' y w1 cnt1 hkey hlk hv hat hrg1 hlt1 hg1 hs1 hen; obtain ⟨x', ex, rfl, hwx⟩ := Maps.keyOf_int_inv Try.underlying3 hkey; cases ex; obtain ⟨c', ec, rfl, hwc⟩ := plainElem_int_inv Try.underlying3 hv; cases ec) | (intro hc0 hl0))
          · refine ⟨trivial, (callsIn_wide.2 (works3_any _)).mono ?_⟩
            rintro e V9 ⟨rfl, hb9⟩
            have hbr9 : Below Q.heap.size Q V9 := hbr.trans (hb9.mono hbr.size)
            have hk3 := (hbr9.block D3 (Array.getElem?_eq_some_iff.1 HD3Q.out).1).trans HD3Q.out
            have hbZ9 : Below Z.heap.size Z V9 := HBQ.out.trans (hbr9.mono HBQ.out.size)
            have hk2 := (hbZ9.block D2 (Array.getElem?_eq_some_iff.1 HD2.out).1).trans HD2.out
            have hk1 := (hbZ9.block D1 (Array.getElem?_eq_some_iff.1 HD1.out).1).trans HD1.out
            have hl2 := (Array.getElem?_eq_some_iff.1 HD2.out).1
            have hl1 := (Array.getElem?_eq_some_iff.1 HD1.out).1
            have hne1 := HNE.out
            have hne32 : D3 ≠ D2 := by omega
            have hne31 : D3 ≠ D1 := by omega
            have HKS := Lib.hid (And.intro hk3 (And.intro hk2 hk1))
            have hX9 : Below (S + 3) X V9 := HBZ.out.trans (hbZ9.mono (by omega))
            have HX9 := Lib.hid hX9
            have hz9 := hX9.size
            clear hk3 hk2 hk1 hbr9 hbZ9 hX9
            gi_wp2_with fail
            have hK2' : (V9.putObj D3 (.deferred none)).heap[D2]? = some (.deferred (some [])) := (World.putObj_heap_other (Ne.symm hne32)).trans HKS.out.2.1
            have hK1' : ((V9.putObj D3 (.deferred none)).putObj D2 (.deferred none)).heap[D1]? = some (.deferred (some [])) := (World.putObj_heap_other hne1).trans ((World.putObj_heap_other (Ne.symm hne31)).trans HKS.out.2.2)
            refine ⟨by simp, .inl ⟨_, _, rfl, run_takeDeferred HKS.out.1, ?_⟩⟩
            refine ⟨by simp, .inl ⟨_, _, rfl, run_takeDeferred hK2', ?_⟩⟩
            refine ⟨by simp, .inl ⟨_, _, rfl, run_takeDeferred hK1', ?_⟩⟩
            have hbw : Below w.heap.size w V9 := HBX.out.trans (HX9.out.mono (by omega))
            have g3 := hbw.grown (grownBy_putObj' V9 D3 (.deferred none)) (by have := hbw.size; omega) (fun k e => by cases e; omega)
            have g2 := g3.grown (grownBy_putObj' _ D2 (.deferred none)) (by have := g3.size; omega) (fun k e => by cases e; omega)
            have g1 := g2.grown (grownBy_putObj' _ D1 (.deferred none)) (by have := g2.size; omega) (fun k e => by cases e; omega)
            exact ⟨_, results_tmp rfl _ _ _, rfl, g1⟩
          · have hb1 : Below Q.heap.size Q w1 := hbr.grown hg1 (by have := hbr.size; omega) (fun k e => by cases e; omega)
            have hhas : kHas l x = true := by rw [← HAG.out.has x]; exact hleft _ hlk
            have hval : (kGet l x).getD 0 = e := dl_inj ((HAG.out.at' x).symm.trans (hat (dl 0)))
            have hget := getC (HKEEP.out w1 hb1) (by omega) x
            rw [hval, hhas] at hget
            refine ⟨trivial, (callsIn_wide.2 hget).mono ?_⟩
            rintro e2 w2 ⟨rfl, hb2⟩
            have hb3 : Below Q.heap.size Q w2 := hb1.trans (hb2.mono hb1.size)
            have hrg2 := hrg1.kept (row := none) ⟨hb2.os, hb2.tape, hb2.output, hb2.size, fun k hk _ => hb2.block k hk⟩ (by simp) (by simp)
            have HRG2 := Lib.hid hrg2
            have HRG := Lib.hid hrg
            have HB33 := Lib.hid hb3
            have HLT := Lib.hid hlt1
            clear hb1 hb2 hb3 hrg2 hrg1 hrg hbr hget hval hhas hat hen
            gi_wp2_with fail
            go_roundw
            case rel => exact ⟨_, _, HRG2.out, fun z hz => hleft z (by simp at hz; exact hz.1), HB33.out⟩
            case measure =>
              rw [HRG2.out.left_eq, HRG.out.left_eq]
              exact HLT.out
end Go.Proofs.Ythllcfmmfnaogaa
