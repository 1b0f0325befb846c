/- OrdmapMap: the walk. -/
import Derived.Test.YtchnfmfbdbjbjaaOmSorted
import Derived.Test.YtchnfmfbdbjbjaaOmAllC
import Derived.Test.YtchnfmfbdbjbjaaOmWorks
import Derived.RangeFuncBox
import Derived.Maps.OwnIn
import Derived.Deep.QuietTactic
import Derived.BigQuiet
import Derived.Outline
namespace Go.Proofs.Ytchnfmfbdbjbjaa
open Go Go.RowKit Go.Maps

attribute [local go_sem] Oper.semAt_some

theorem ownsRow_slice {w : World} {base : Nat} {e : TypeId} {size : Nat} {v : Value} {n : Nat} {xs : List Value} (h : w.ownsRow base e size v n xs) : ∃ p c, v = .slice p n c ∧ n ≤ c ∧ c ≤ 9223372036854775807 := by
  rcases h.2 with ⟨h1, h2⟩ | ⟨g, cap, cur, h1, h2, h3, h4, h5, h6⟩
  · exact ⟨none, 0, by rw [h1, h2], by omega, by omega⟩
  · exact ⟨_, cap, h1, h4, by unfold maxLen at h5; omega⟩

theorem ownsRow_at {w : World} {base : Nat} {e : TypeId} {p : Option Addr} {n c : Nat} {xs : List Value} (h : w.ownsRow base e 1 (.slice p n c) n xs) {j : Nat} {u : Value} (hj : xs[j]? = some u) : ∃ g, p = some ⟨g, 0, none⟩ ∧ base ≤ g ∧ g < w.heap.size ∧ w.cell? ⟨g, j, none⟩ = some u := by
  rcases h.2 with ⟨h1, h2⟩ | ⟨g, cap, cur, h1, h2, h3, h4, h5, h6⟩
  · have := h.1
    rw [h2] at this
    have : xs = [] := List.eq_nil_of_length_eq_zero (by simpa using this)
    subst this
    simp at hj
  · injection h1 with e1 e2 e3
    refine ⟨g, e1, h2, (Array.getElem?_eq_some_iff.1 h3).1, ?_⟩
    have := h.cells (g := g) (by rw [e1]; rfl) j u hj
    rwa [Addr.add_lit, Nat.zero_add] at this

theorem ownsRow_below {w w' : World} {base : Nat} {e : TypeId} {size : Nat} {v : Value} {n : Nat} {xs : List Value} (h : w.ownsRow base e size v n xs) (hb : Below w.heap.size w w') : w'.ownsRow base e size v n xs := by
  refine ⟨h.1, ?_⟩
  rcases h.2 with h1 | ⟨g, cap, cur, h1, h2, h3, h4⟩
  · exact .inl h1
  · exact .inr ⟨g, cap, cur, h1, h2, (hb.block _ (Array.getElem?_eq_some_iff.1 h3).1).trans h3, h4⟩

theorem keepsFrom_below {B : Nat} {W W' : World} (h : Below W.heap.size W W') : KeepsFrom B W W' :=
  KeepsFrom.of_grownBy (row := none) ⟨h.os, h.tape, h.output, h.size, fun k hk _ => h.block k hk⟩ (fun j e => by cases e)

theorem not_prefix {α : Type} {pre l : List α} {x : α} (h : l[pre.length]? ≠ some x) : ¬ (pre ++ [x]) <+: l := fun ⟨t, e⟩ => h (by rw [← e]; simp)

set_option maxHeartbeats 4000000 in
set_option maxRecDepth 100000 in
theorem ordmapMap_in (n : Nat) (hn : 10 ≤ n) (a : Option Addr) (len cap : Nat) (xs : List (Bool × Int × Int)) (hlen : xs.length = len) (hcap : len ≤ cap) (hc63 : cap ≤ 9223372036854775807) (w : World) (hX : CallsAt w w.heap.size a xs) :
    CallsIn Fence.wide n Try.prog 5 #[.slice a len cap] w fun e w' => e = .returned (.bool true) ∧ Below w.heap.size w w' := by
  have h1 : 1 ≤ n := by omega
  have hA0 : Below w.heap.size w (w.alloc (.cells #[.bool false] 4)) := (Below.refl _ _).alloc (Nat.le_refl _) _
  have hf := filled_any a len cap xs hlen hcap hc63 (w.alloc (.cells #[.bool false] 4)) (by
    intro j x hx
    obtain ⟨⟨g, o, h⟩, hr⟩ := (hX.below hA0) j x hx
    exact ⟨⟨g, o, h.1, by simp; omega, h.2.2⟩, hr⟩)
  have hres : Boxed (w.alloc (.cells #[.bool false] 4)) w.heap.size 4 (.bool false) := Boxed.new _ _ _
  simp only [World.size_alloc] at hf
  have HF := Lib.hid hf
  have HRES := Lib.hid hres
  have HA0 := Lib.hid hA0
  clear hf hX hres hA0
  refine callsIn_of_wp_marks Try.func5 rfl trivial ?_ rfl
  simp only [Try.ntmps5, List.size_toArray, List.length_nil, Array.size_empty, List.length_cons, Nat.reduceAdd, Nat.reduceSub, Array.replicate_succ, Array.replicate_zero, List.push_toArray, List.append_toArray, List.nil_append, List.cons_append, Array.empty_append]
  gi_wp2_with fail
  refine ⟨trivial, (callsIn_wide.2 HF.out).mono ?_⟩
  rintro e W1 ⟨rfl, ⟨p, c, l, D, hM, hown, hag, hll, hrg, hpb⟩, hb1⟩
  have hsz1 := hb1.size
  have hml := ownsMap_lt hown
  have hres1 : Boxed W1 w.heap.size 4 (.bool false) := (hb1.block _ (by omega)).trans HRES.out
  have HM := Lib.hid hM
  have HOWN := Lib.hid hown
  have HAG := Lib.hid hag
  have HRG := Lib.hid hrg
  have HPB := Lib.hid hpb
  have HB1 := Lib.hid (HA0.out.trans (hb1.mono (by omega)))
  have HR1 := Lib.hid hres1
  clear hM hown hag hrg hpb hb1 hres1
  have hA2 : Below W1.heap.size W1 ((W1.alloc (.cells #[.pointer (some ⟨w.heap.size + 1, 0, none⟩)] 46)).alloc (.cells #[.map (some (w.heap.size + 1 + 1))] 47)) := ((Below.refl _ _).alloc (Nat.le_refl _) _).alloc (by simp) _
  have HA2 := Lib.hid hA2
  have hlen2 := fun m => lenC (HM.out.below (Below.drewN' m hA2))
  have hmlen : ∀ (m : Nat) ty, (Builtin.len_ #[47] ty #[.map (some (w.heap.size + 1 + 1))]).run Try.prog (((W1.alloc (.cells #[.pointer (some ⟨w.heap.size + 1, 0, none⟩)] 46)).alloc (.cells #[.map (some (w.heap.size + 1 + 1))] 47)).drewN m) = .ok (.int .i64 l.length) _ := fun m ty => by
    have := (ownsMap_same HOWN.out ((Below.drewN' m hA2).block _ hml)).len Try.underlying47 ty
    rw [HAG.out.size] at this
    exact this
  have HLEN2 := Lib.hid hlen2
  clear hA2 hlen2
  gi_wp2_with fail
  refine wpIn_wide.2 ?_
  go_quiet ((go_at_call 23; exact Calls.quiet_of_same (HLEN2.out _)))
  have hA3 : Below W1.heap.size W1 (((W1.alloc (.cells #[.pointer (some ⟨w.heap.size + 1, 0, none⟩)] 46)).alloc (.cells #[.map (some (w.heap.size + 1 + 1))] 47)).drewN nq) := Below.drewN' nq HA2.out
  have hbm : Boxed (((W1.alloc (.cells #[.pointer (some ⟨w.heap.size + 1, 0, none⟩)] 46)).alloc (.cells #[.map (some (w.heap.size + 1 + 1))] 47)).drewN nq) W1.heap.size 46 (.pointer (some ⟨w.heap.size + 1, 0, none⟩)) := (Boxed.new W1 _ _).alloc _
  have hbw : Boxed (((W1.alloc (.cells #[.pointer (some ⟨w.heap.size + 1, 0, none⟩)] 46)).alloc (.cells #[.map (some (w.heap.size + 1 + 1))] 47)).drewN nq) (W1.heap.size + 1) 47 (.map (some (w.heap.size + 1 + 1))) := by
    have := Boxed.new (W1.alloc (.cells #[.pointer (some ⟨w.heap.size + 1, 0, none⟩)] 46)) 47 (.map (some (w.heap.size + 1 + 1)))
    rw [World.size_alloc] at this
    exact this
  have hs3 : (((W1.alloc (.cells #[.pointer (some ⟨w.heap.size + 1, 0, none⟩)] 46)).alloc (.cells #[.map (some (w.heap.size + 1 + 1))] 47)).drewN nq).heap.size = W1.heap.size + 2 := by show ((W1.alloc _).alloc _).heap.size = _; simp
  clear hmlen HLEN2 HA2
  generalize ((W1.alloc (.cells #[.pointer (some ⟨w.heap.size + 1, 0, none⟩)] 46)).alloc (.cells #[.map (some (w.heap.size + 1 + 1))] 47)).drewN nq = W3 at *
  have hcw := hbw.cell
  have hown3 := ownsMap_same HOWN.out (hA3.block _ hml)
  have hkm := keysMake (some (w.heap.size + 1 + 1)) W3
  have hso := sortedOf (w.heap.size + 1 + 1) 100 HAG.out HM.out.srt (by omega) W3 hown3
  have HHK := Lib.hid hkm
  have HHS := Lib.hid hso
  have HA3 := Lib.hid hA3
  have HBM := Lib.hid hbm
  have HBW := Lib.hid hbw
  have HS3 := Lib.hid hs3
  clear hown3 hkm hso hA3 hbm hbw hs3
  gi_wp2_with fail
  refine ⟨trivial, (callsIn_wide.2 HHK.out).mono ?_⟩
  rintro e W4 ⟨rfl, rfl⟩
  gi_wp2_with fail
  refine ⟨trivial, (callsIn_wide.2 HHS.out).mono ?_⟩
  rintro e W5 ⟨v, rfl, hrow, hb5⟩
  obtain ⟨kp, kc, rfl, hkc, hkc63⟩ := ownsRow_slice hrow
  have hA5 : Below W3.heap.size W3 W5 := ((Below.refl W3.heap.size W3).alloc (Nat.le_refl _) _).trans (hb5.mono (by omega))
  have hs5 : W3.heap.size < W5.heap.size := by have := hb5.size; simp at this; omega
  have HROW := Lib.hid hrow
  have HA5 := Lib.hid hA5
  have HS5 := Lib.hid hs5
  clear hrow hb5 hA5 hs5
  -- the world ahead of the loop's own variable
  have hK6 : Below W5.heap.size W5 (W5.alloc (.cells #[.slice kp l.length kc] 51)) := (Below.refl _ _).alloc (Nat.le_refl _) _
  have bKey := Boxed.new W5 51 (.slice kp l.length kc)
  have HK6 := Lib.hid hK6
  have HBK := Lib.hid bKey
  have hcm : ((W5.alloc (.cells #[.slice kp l.length kc] 51)).alloc (.cells #[.int .i64 0] 3)).cell? ⟨W1.heap.size, 0, none⟩ = some (.pointer (some ⟨w.heap.size + 1, 0, none⟩)) := by
    have h5 : W5.heap[W1.heap.size]? = W3.heap[W1.heap.size]? := HA5.out.block _ (by have := HS3.out; omega)
    have hlt5 : W1.heap.size < W5.heap.size := by have := HS3.out; have := HS5.out; omega
    simp only [World.cell?, Below.heap_alloc (W5.alloc (.cells #[.slice kp l.length kc] 51)) (.cells #[.int .i64 0] 3) W1.heap.size (by simp; omega), Below.heap_alloc W5 (.cells #[.slice kp l.length kc] 51) W1.heap.size hlt5, h5, show W3.heap[W1.heap.size]? = _ from HBM.out]
    rfl
  clear hK6 bKey
  gi_wp2_with fail
  refine ⟨trivial, (callsIn_wide.2 (allMakeC _ _)).mono ?_⟩
  rintro e W6 ⟨rfl, rfl⟩
  gi_wp2_with fail
  refine ⟨trivial, (callsIn_wide.2 (yieldsC _ _ _)).mono ?_⟩
  rintro e W6 ⟨rfl, rfl⟩
  gi_wp2_with fail
  rename_i Kd hKd
  -- the world ahead of the loop
  have hlt5 : W1.heap.size + 2 < W5.heap.size := by have := HS3.out; have := HS5.out; omega
  have h35 : ∀ k, k < W1.heap.size + 2 → W5.heap[k]? = W3.heap[k]? := fun k hk => HA5.out.block k (by rw [HS3.out]; exact hk)
  have hWK1 : Below W1.heap.size W1 (W5.alloc (.cells #[.slice kp l.length kc] 51)) := (HA3.out.trans (HA5.out.mono (by rw [HS3.out]; omega))).trans (HK6.out.mono (by omega))
  have bmK : Boxed (W5.alloc (.cells #[.slice kp l.length kc] 51)) W1.heap.size 46 (.pointer (some ⟨w.heap.size + 1, 0, none⟩)) := (show Boxed W5 _ _ _ from (h35 _ (by omega)).trans HBM.out).alloc _
  have bwK : Boxed (W5.alloc (.cells #[.slice kp l.length kc] 51)) (W1.heap.size + 1) 47 (.map (some (w.heap.size + 1 + 1))) := (show Boxed W5 _ _ _ from (h35 _ (by omega)).trans HBW.out).alloc _
  have brK : Boxed (W5.alloc (.cells #[.slice kp l.length kc] 51)) w.heap.size 4 (.bool false) := (hWK1.block _ (by omega)).trans HR1.out
  have hrowK : (W5.alloc (.cells #[.slice kp l.length kc] 51)).ownsRow (W3.heap.size + 1) 3 1 (.slice kp l.length kc) l.length (l.map fun x => Value.int .i64 x.1) := HROW.out.alloc _
  have hsK : (W5.alloc (.cells #[.slice kp l.length kc] 51)).heap.size = W5.heap.size + 1 := World.size_alloc _ _
  have bkK := HBK.out
  have hR0 : Below (W5.heap.size + 1) (W5.alloc (.cells #[.slice kp l.length kc] 51)) (((W5.alloc (.cells #[.slice kp l.length kc] 51)).alloc (.cells #[.int .i64 0] 3)).alloc (.cells #[.pointer (some ⟨w.heap.size + 1, 0, none⟩)] 46)) := ((Below.refl _ _).alloc (by rw [hsK]; omega) _).alloc (by simp) _
  have biR : Boxed (((W5.alloc (.cells #[.slice kp l.length kc] 51)).alloc (.cells #[.int .i64 0] 3)).alloc (.cells #[.pointer (some ⟨w.heap.size + 1, 0, none⟩)] 46)) (W5.heap.size + 1) 3 (.int .i64 0) := by
    have := Boxed.new (W5.alloc (.cells #[.slice kp l.length kc] 51)) 3 (.int .i64 0)
    rw [hsK] at this
    exact this.alloc _
  have bpR : Boxed (((W5.alloc (.cells #[.slice kp l.length kc] 51)).alloc (.cells #[.int .i64 0] 3)).alloc (.cells #[.pointer (some ⟨w.heap.size + 1, 0, none⟩)] 46)) (W5.heap.size + 1 + 1) 46 (.pointer (some ⟨w.heap.size + 1, 0, none⟩)) := by
    have := Boxed.new ((W5.alloc (.cells #[.slice kp l.length kc] 51)).alloc (.cells #[.int .i64 0] 3)) 46 (.pointer (some ⟨w.heap.size + 1, 0, none⟩))
    rw [World.size_alloc, hsK] at this
    exact this
  have hsR : (((W5.alloc (.cells #[.slice kp l.length kc] 51)).alloc (.cells #[.int .i64 0] 3)).alloc (.cells #[.pointer (some ⟨w.heap.size + 1, 0, none⟩)] 46)).heap.size = W5.heap.size + 1 + 1 + 1 := by simp
  clear hcm hcw HK6 HBK HROW HA5 HBM HBW HA3 HR1 HHK HHS
  generalize (((W5.alloc (.cells #[.slice kp l.length kc] 51)).alloc (.cells #[.int .i64 0] 3)).alloc (.cells #[.pointer (some ⟨w.heap.size + 1, 0, none⟩)] 46)) = WR at *
  generalize (W5.alloc (.cells #[.slice kp l.length kc] 51)) = WK at *
  have hMK := HM.out.below hWK1
  have hMR := hMK.below (hR0.mono (by omega))
  have hpn : ∀ a, p = some a → a.block < W5.heap.size + 1 := fun a ha => by have := (HM.out.own ha).2; omega
  have hownK := ownsMap_same HOWN.out (hWK1.block _ hml)
  have HWK1 := Lib.hid hWK1
  have HBMK := Lib.hid bmK
  have HBWK := Lib.hid bwK
  have HBRK := Lib.hid brK
  have HROWK := Lib.hid hrowK
  have HBKK := Lib.hid bkK
  have HMK := Lib.hid hMK
  have HOWNK := Lib.hid hownK
  have HSK := Lib.hid hsK
  have HSR := Lib.hid hsR
  clear hWK1 bmK bwK brK hrowK bkK hMK hownK hsK hsR HM HOWN h35
  refine rangeG (encs := encC) (fun x T => ((((T.setIfInBounds 33 (.int .i64 x.1)).setIfInBounds 34 (.int .i64 x.2)).setIfInBounds 8 (.int .i64 x.1)).setIfInBounds 9 (.int .i64 x.2))) rfl h1 (gf := 94) (lb := #[.pointer (some ⟨W5.heap.size + 1 + 1, 0, none⟩)]) rfl trivial (enters_of Try.func94 (by kernel_rfl) rfl)
    (allStopsC (n - 1) (by omega) (by omega) (W5.heap.size + 1 + 1) (W5.heap.size + 1) WR bpR.cell hMR hpn (by rw [HSR.out]; omega)) belowK_t (belowK_b (by rw [HSR.out]; omega)) (Below.refl _ _) (fun _ => rfl)
    (fun pre W => Boxed W (W5.heap.size + 1) 3 (.int .i64 (pre.length : Nat)) ∧ Below (W5.heap.size + 1) WK W)
    (fun c pre W => c = .ret ∧ ¬ pre <+: l)
    (OwnFrom.and (fun s W W' row hs hg hr => hs.kept hg (fun e => by have := (hr _ e.symm).1; have := HSR.out; omega)) (ownFrom_below (by rw [HSK.out]; exact Nat.le_refl _) (by rw [HSR.out]; omega))) (fun c s W W' row hs hg hr => hs) ⟨biR, hR0⟩ ?assign ?body ?done ?stop
  case assign =>
    intro lr x W K hK
    unfold encC
    gi_wp2
    exact hK
  case body =>
    rintro lr pre x W ⟨hbi, hbW⟩ hlt
    have hcm := (hbW.block W1.heap.size (by omega)).trans HBMK.out
    have hcw := (hbW.block (W1.heap.size + 1) (by omega)).trans HBWK.out
    have hcr := (hbW.block w.heap.size (by omega)).trans HBRK.out
    have hck := (hbW.block W5.heap.size (by omega)).trans HBKK.out
    have hbWK : Below WK.heap.size WK W := hbW.mono (by rw [HSK.out]; omega)
    have hownW := ownsMap_same HOWNK.out (hbWK.block _ (by have := ownsMap_lt HOWNK.out; omega))
    have hrowW := ownsRow_below HROWK.out hbWK
    replace hcm : Boxed W W1.heap.size 46 _ := hcm
    replace hcw : Boxed W (W1.heap.size + 1) 47 _ := hcw
    replace hcr : Boxed W w.heap.size 4 _ := hcr
    replace hck : Boxed W W5.heap.size 51 _ := hck
    obtain ⟨y, hy⟩ : ∃ y, l[pre.length]? = some y := ⟨_, List.getElem?_eq_getElem hlt⟩
    have hyr := HRG.out y (List.mem_of_getElem? hy)
    obtain ⟨g, rfl, hgb, hgs, hkey⟩ := ownsRow_at hrowW (j := pre.length) (u := .int .i64 y.1) (by rw [List.getElem?_map, hy]; rfl)
    obtain ⟨cv, hlook, hat, -⟩ := hownW.lookup_int lawInt Try.underlying47 Try.underlying3 (zeroInt _) (keyOf_int_mk Try.underlying3 (wf_16 hyr.1 hyr.2))
    have hcv : cv = y.2 := by
      have := HAG.out.at' y.1
      rw [kGet_some ordI HMK.out.srt hy] at this
      exact dl_inj (hat.symm.trans this)
    subst hcv
    have hgetW := getC (HMK.out.below hbWK) (by omega) y.1
    rw [← kGet_has, kGet_some ordI HMK.out.srt hy] at hgetW
    have HGET := Lib.hid hgetW
    have HHY := Lib.hid hy
    have c1 := hcm.cell
    have c2 := hcw.cell
    have c3 := hck.cell
    have c4 := hbi.cell
    have c5 := hcr.frozen
    have c6 := hcr.cell
    have e1 : ¬ (l.length : Int) ≤ (pre.length : Int) := by omega
    clear hcm hcw hck hgetW hy hrowW hownW hat
    simp only [List.setIfInBounds_toArray, List.set_cons_succ, List.set_cons_zero]
    by_cases h1 : x.1 = y.1
    · by_cases h2 : x.2 = y.2
      · obtain rfl : x = y := Prod.ext h1 h2
        gi_wp2_with fail
        refine ⟨trivial, (fun h => by cases h), (CallsIn.inRound lr (callsIn_wide.2 HGET.out)).mono ?_⟩
        rintro e W2 ⟨rfl, hb2⟩
        have hbi2 : Boxed W2 (W5.heap.size + 1) 3 (.int .i64 (pre.length : Nat)) := (hb2.block _ hbi.lt).trans hbi
        have c4' := hbi2.cell
        have f4' := hbi2.frozen
        gi_wp2_with fail
        have hB3 : Below (W5.heap.size + 1) W (W2.setCell ⟨W5.heap.size + 1, 0, none⟩ (.int .i64 (pre.length + 1 : Int))) := (hb2.mono (Nat.le_of_lt hbi.lt)).setCell (Nat.le_refl _) _
        refine ⟨(keepsFrom_below hb2).trans ((KeepsOthers.setCell _ _ _).from _), hB3, ?_, hbW.trans hB3⟩
        have := hbi2.set (.int .i64 (pre.length + 1 : Int))
        simpa using this
      · gi_wp2_with fail
        exact ⟨(KeepsOthers.setCell _ _ _).from _, rfl, not_prefix (by rw [HHY.out]; intro e; injection e with e; exact h2 (by rw [e]))⟩
    · gi_wp2_with fail
      exact ⟨(KeepsOthers.setCell _ _ _).from _, rfl, not_prefix (by rw [HHY.out]; intro e; injection e with e; exact h1 (by rw [e]))⟩
  case done =>
    rintro D' xs' W hD hxs ⟨hbi, hbW⟩ hK
    subst hxs
    have hcr : Boxed W w.heap.size 4 _ := (hbW.block w.heap.size (by omega)).trans HBRK.out
    have hck : Boxed W W5.heap.size 51 _ := (hbW.block W5.heap.size (by omega)).trans HBKK.out
    have c3 := hck.cell
    have c4 := hbi.cell
    clear hck hbi
    refine hKd _ _ ?_
    gi_wp2_with fail
    refine ⟨trivial, (callsIn_wide.2 (works3_any W)).mono ?_⟩
    rintro e W2 ⟨rfl, hb2⟩
    have hcr2 : Boxed W2 w.heap.size 4 _ := (hb2.block _ hcr.lt).trans hcr
    have c5 := hcr2.cell
    have c6 := hcr2.frozen
    have hK2 := (hb2.block _ (Array.getElem?_eq_some_iff.1 hK).1).trans hK
    clear hcr
    gi_wp2_with fail
    have hK' := (KeepsOthers.setCell W2 ⟨w.heap.size, 0, none⟩ (.bool true)).same D' _ hK2 rfl
    refine ⟨by simp, .inl ⟨_, _, rfl, run_takeDeferred hK', ?_⟩⟩
    have hc5 := cell_kept (World.cell?_setCell_same' W2 ⟨w.heap.size, 0, none⟩ (.bool true) (by rw [c5]; rfl)) (grownBy_putObj' _ D' (.deferred none)) (fun r e => by cases e; exact ⟨_, hK', rfl⟩)
    refine ⟨.bool true, ?_, rfl, ?_⟩
    · simp [results, Try.f5, go_sem, hc5]
    · have hz := hbW.size
      have hs := HSK.out
      have hs1 := HWK1.out.size
      have hb := (((HB1.out.trans (HWK1.out.mono (by omega))).trans (hbW.mono (by omega))).trans (hb2.mono (by omega))).setCell (p := ⟨w.heap.size, 0, none⟩) (Nat.le_refl _) (.bool true)
      exact hb.grown (grownBy_putObj' _ D' (.deferred none)) (by have h8 : (W2.setCell ⟨w.heap.size, 0, none⟩ (.bool true)).heap.size = W2.heap.size := World.size_setCell ..; have := hb2.size; omega) (fun k e => by cases e; have := HSR.out; omega)
  case stop =>
    rintro D c pre W hD hpre ⟨rfl, hnot⟩ hK
    exact absurd hpre hnot
end Go.Proofs.Ytchnfmfbdbjbjaa
