/- What the calls on an ordered map answer, and what they leave. -/
import Derived.Test.YtpnhklehpilopaaOmAskD
import Derived.Test.YtpnhklehpilopaaOmMem2
namespace Go.Proofs.Ytpnhklehpilopaa
open Go Go.RowKit

set_option maxHeartbeats 800000 in
set_option maxRecDepth 100000 in
theorem findD {W : World} {base b : Nat} {p : Option Addr} {c : Nat} {l : List (Int × (Int × ByteArray))} (h : MapD W base b p c l) (hn : l.length ≤ 1000000) (k : Int) :
    Calls Try.prog 131 #[.pointer (some ⟨b, 0, none⟩), Value.int .u8 k] W fun e w' => e = .returned (.tuple #[.int .i64 (kRank ltI l k : Nat), .bool (kHas l k)]) ∧ Below W.heap.size W w' := by
  have hr := rankD h hn k
  have H := Lib.hid h
  have hle := kRank_le ltI l k
  have hhas := has_at_rank ordI h.srt k
  generalize hrk : kRank ltI l k = r at *
  clear hrk
  cases hx : l[r]? with
  | none =>
    have hge : l.length ≤ r := List.getElem?_eq_none_iff.1 hx
    have hf : kHas l k = false := by
      cases hh : kHas l k with
      | false => rfl
      | true => obtain ⟨v, hv⟩ := hhas.1 hh; rw [hx] at hv; cases hv
    have HF := Lib.hid hf
    rw [hf]
    clear hf hhas hx h
    go_enter Try.func131, Try.ntmps131
    go_wp2_with (go_at_call 199; refine hr.mono ?_; rintro e w' ⟨rfl, hb⟩)
    have hp := pickNoneD (H.out.below hb) (r : Int) (.inr (by omega))
    go_wp2_with (go_at_call 200; refine hp.mono ?_; rintro e w2 ⟨rfl, hb2⟩)
    go_ret2
    exact ⟨rfl, below_then hb (hb2.alloc hb2.size _)⟩
  | some x =>
    obtain ⟨k', v⟩ := x
    by_cases hk : k' = k
    · subst hk
      have hf : kHas l k' = true := hhas.2 ⟨v, hx⟩
      rw [hf]
      have HX := Lib.hid hx
      have heq : (k' == k') = true := by simp
      clear hf hhas hx h
      go_enter Try.func131, Try.ntmps131
      go_wp2_with (go_at_call 199; refine hr.mono ?_; rintro e w' ⟨rfl, hb⟩)
      have hp := pickD (H.out.below hb) r (k', v) HX.out
      go_wp2_with (go_at_call 200; refine hp.mono ?_; rintro e w2 ⟨rfl, hb2⟩)
      go_ret2
      exact ⟨rfl, below_then hb (hb2.alloc hb2.size _)⟩
    · have hf : kHas l k = false := by
        cases hh : kHas l k with
        | false => rfl
        | true => obtain ⟨u, hu⟩ := hhas.1 hh; rw [hx] at hu; cases hu; exact absurd rfl hk
      rw [hf]
      have HX := Lib.hid hx
      have heq : (k' == k) = false := by simp [hk]
      have HK := Lib.hid hk
      clear hf hhas hx h hk
      go_enter Try.func131, Try.ntmps131
      go_wp2_with (go_at_call 199; refine hr.mono ?_; rintro e w' ⟨rfl, hb⟩)
      have hp := pickD (H.out.below hb) r (k', v) HX.out
      go_wp2_with (go_at_call 200; refine hp.mono ?_; rintro e w2 ⟨rfl, hb2⟩)
      go_ret2
      exact ⟨rfl, below_then hb (hb2.alloc hb2.size _)⟩

set_option maxHeartbeats 800000 in
set_option maxRecDepth 100000 in
theorem newD (w : World) : Calls Try.prog 39 #[] w fun e w' => e = .returned (.pointer (some ⟨w.heap.size, 0, none⟩)) ∧ MapD w' w.heap.size w.heap.size none 0 [] ∧ Below w.heap.size w w' ∧ w'.heap.size = w.heap.size + 1 := by
  go_enter Try.func39, Try.ntmps39
  go_wp2
  go_ret
  exact ⟨rfl, ⟨heap_alloc_new w _, Nat.le_refl _, ⟨World.ownsRow_nil _ _ _ _, (fun e he => by simp at he)⟩, (fun a h => by cases h), srt_nil _⟩, (Below.refl _ _).alloc (Nat.le_refl _) _, by simp⟩

set_option maxHeartbeats 800000 in
set_option maxRecDepth 100000 in
theorem lenD {W : World} {base b : Nat} {p : Option Addr} {c : Nat} {l : List (Int × (Int × ByteArray))} (h : MapD W base b p c l) :
    Calls Try.prog 46 #[.pointer (some ⟨b, 0, none⟩)] W fun e w' => e = .returned (.int .i64 l.length) ∧ w' = W := by
  have hl := listD h
  clear h
  generalize l.length = n at *
  go_enter Try.func46, Try.ntmps46
  go_wp2_with (go_at_call 139; refine hl.mono ?_; rintro e w' ⟨rfl, rfl⟩)
  go_ret
  exact ⟨rfl, rfl⟩

theorem set_two {w : World} {b : Nat} {t : TypeId} {x y : Value} (h : w.heap[b]? = some (.cells #[x, y] t (0, 0))) (u v : Value) : ((w.setCell ⟨b, 0, none⟩ u).setCell ⟨b, 1, none⟩ v).heap[b]? = some (.cells #[u, v] t (0, 0)) := by
  refine set_head (x := u) (y := y) ?_ v
  rw [setCell_eq_setRow w b 0 #[x, y] t (0, 0) u h]
  exact setRow_heap w b _ _ t _ h

theorem cell_of {w : World} {b o : Nat} {t : TypeId} {cs : Array Value} {v : Value} (h : w.heap[b]? = some (.cells cs t (0, 0))) (hv : cs[o]? = some v) : w.cell? ⟨b, o, none⟩ = some v := by
  simp only [World.cell?, h]
  exact hv

theorem Touch.new {b m : Nat} {p : Option Addr} {W w' : World} (h : Touch b p W w') (hm : W.heap.size ≤ m) (o : Nat) (v : Value) : Touch b p W (w'.setCell ⟨m, o, none⟩ v) :=
  ⟨h.os, h.tape, h.output, by simp [World.setCell]; exact h.size, fun k hk h1 h2 => (Below.heap_setCell _ _ _ _ (by show k ≠ m; omega)).trans (h.block k hk h1 h2)⟩

theorem MapD.new {W : World} {base b m : Nat} {p : Option Addr} {c : Nat} {l : List (Int × (Int × ByteArray))} (h : MapD W base b p c l) (hb : b ≠ m) (hp : ∀ a, p = some a → a.block ≠ m) (o : Nat) (v : Value) : MapD (W.setCell ⟨m, o, none⟩ v) base b p c l :=
  h.same (by simp [World.setCell]) (Below.heap_setCell _ _ _ _ hb) (fun a ha => Below.heap_setCell _ _ _ _ (hp a ha))

theorem flat_set3 {es : List (List Value)} {K r : Nat} {k v s v' s' : Value} (h : Elems K es) (he : es[r]? = some [k, v, s]) : (es.set r [k, v', s']).flatten = (es.flatten.set (r * K + 1) v').set (r * K + 2) s' := by
  have hr : r < es.length := (List.getElem?_eq_some_iff.1 he).1
  have e1 : es = es.take r ++ [k, v, s] :: es.drop (r + 1) := by
    conv => lhs; rw [← List.take_append_drop r es, List.drop_eq_getElem_cons hr, (List.getElem?_eq_some_iff.1 he).2]
  have hA : (es.take r).flatten.length = r * K := by rw [(h.take r).len, List.length_take, Nat.min_eq_left (by omega)]
  rw [List.set_eq_take_append_cons_drop, if_pos hr]
  conv => rhs; rw [e1]
  rw [List.flatten_append, List.flatten_append, List.set_append_right _ _ (by rw [hA]; omega), List.set_append_right _ _ (by rw [hA]; omega), hA]
  simp

theorem MapD.setVal {W : World} {base b g : Nat} {c : Nat} {l : List (Int × (Int × ByteArray))} (h : MapD W base b (some ⟨g, 0, none⟩) c l) {r : Nat} {k : Int} {v x : Int × ByteArray} (hx : l[r]? = some (k, v)) (hs : Srt ltI (l.set r (k, x))) :
    MapD ((W.setCell ⟨g, r * 3 + 1, none⟩ (.int .i64 x.1)).setCell ⟨g, r * 3 + 2, none⟩ (.string x.2)) base b (some ⟨g, 0, none⟩) c (l.set r (k, x)) := by
  have hne : b ≠ g := fun e => h.apart _ rfl e.symm
  have hr : r < l.length := (List.getElem?_eq_some_iff.1 hx).1
  have hm : (l.map celD)[r]? = some [.int .u8 k, .int .i64 v.1, .string v.2] := by simp [hx, celD]
  have he : (l.set r (k, x)).map celD = (l.map celD).set r [.int .u8 k, .int .i64 x.1, .string x.2] := by rw [List.map_set]; rfl
  refine ⟨?_, h.low, ?_, h.apart, hs⟩
  · rw [Below.heap_setCell _ _ _ _ hne, Below.heap_setCell _ _ _ _ hne, List.length_set]; exact h.head
  · rcases h.row.parts with ⟨h1, _⟩ | ⟨g', cap, cur, h1, h2, h3, h4, h5, h6, h7⟩
    · cases h1
    · injection h1 with e1 e2 e3
      injection e1 with e1
      injection e1 with e1
      subst e1; subst e3
      have hset := setCell_eq_setRow W g (r * 3 + 1) cur 195 (0, 0) (.int .i64 x.1) h3
      have h3' := setRow_heap W g cur (cur.setIfInBounds (r * 3 + 1) (.int .i64 x.1)) 195 _ h3
      have hset2 := setCell_eq_setRow _ g (r * 3 + 2) _ 195 (0, 0) (.string x.2) h3'
      rw [hset, hset2, List.length_set, he]
      rw [List.length_map] at h4 h7
      refine rowIs_mk (cur := ((cur.setIfInBounds (r * 3 + 1) (.int .i64 x.1)).setIfInBounds (r * 3 + 2) (.string x.2)).toList) (by simp) h2 (by rw [Array.toArray_toList]; exact setRow_heap _ g _ _ 195 _ h3') h4 h5 (by simpa using h6) ?_ ?_
      · intro e hel
        rcases List.mem_or_eq_of_mem_set hel with h8 | rfl
        · exact h.row.2 e h8
        · exact celD_ok (k, x)
      · rw [Array.toList_setIfInBounds, Array.toList_setIfInBounds, List.take_set, List.take_set, h7, flat_set3 h.row.2 hm]

set_option maxHeartbeats 800000 in
set_option maxRecDepth 100000 in
theorem setHasD {W : World} {base b : Nat} {p : Option Addr} {c : Nat} {l : List (Int × (Int × ByteArray))} (h : MapD W base b p c l) (hn : l.length ≤ 1000000) (k : Int) (x v : (Int × ByteArray)) (hx : l[kRank ltI l k]? = some (k, v)) :
    Calls Try.prog 41 #[.pointer (some ⟨b, 0, none⟩), Value.int .u8 k, pvD x] W fun e w' => e = .returned (.tuple #[pvD v, .bool true, .int .i64 0]) ∧ MapD w' base b p c (l.set (kRank ltI l k) (k, x)) ∧ Touch b p W w' := by
  obtain ⟨n, s⟩ := x
  obtain ⟨vn, vs⟩ := v
  have hB1 : Below W.heap.size W (((W.alloc (.cells #[.int .i64 n, .string s] 76)).alloc (.cells #[.int .i64 0, .string ⟨#[]⟩] 76)).alloc (.cells #[.int .i64 0, .string ⟨#[]⟩] 76)) := (((Below.refl _ _).alloc (Nat.le_refl _) _).alloc (by simp) _).alloc (by simp; omega) _
  obtain ⟨W0, hW0⟩ : ∃ W0, W0 = ((W.alloc (.cells #[.int .i64 n, .string s] 76)).alloc (.cells #[.int .i64 0, .string ⟨#[]⟩] 76)).alloc (.cells #[.int .i64 0, .string ⟨#[]⟩] 76) := ⟨_, rfl⟩
  have hsz : W0.heap.size = W.heap.size + 1 + 1 + 1 := by rw [hW0]; simp
  have k0 : W0.heap[W.heap.size]? = some (.cells #[.int .i64 n, .string s] 76 (0, 0)) := by
    rw [hW0, Below.heap_alloc _ _ _ (by simp; omega), Below.heap_alloc _ _ _ (by simp)]; exact heap_alloc_new W _
  have k1 : W0.heap[W.heap.size + 1]? = some (.cells #[.int .i64 0, .string ⟨#[]⟩] 76 (0, 0)) := by
    rw [hW0, Below.heap_alloc _ _ _ (by simp)]
    have := heap_alloc_new (W.alloc (.cells #[.int .i64 n, .string s] 76)) (.cells #[.int .i64 0, .string ⟨#[]⟩] 76)
    rwa [World.size_alloc] at this
  have k2 : W0.heap[W.heap.size + 1 + 1]? = some (.cells #[.int .i64 0, .string ⟨#[]⟩] 76 (0, 0)) := by
    rw [hW0]
    have := heap_alloc_new ((W.alloc (.cells #[.int .i64 n, .string s] 76)).alloc (.cells #[.int .i64 0, .string ⟨#[]⟩] 76)) (.cells #[.int .i64 0, .string ⟨#[]⟩] 76)
    rwa [World.size_alloc, World.size_alloc] at this
  rw [← hW0] at hB1
  have hM0 := h.below hB1
  have hf := findD hM0 hn k
  have hv := validD hM0
  rw [(has_at_rank ordI h.srt k).2 ⟨_, hx⟩] at hf
  have hsrt : Srt ltI (l.set (kRank ltI l k) (k, (n, s))) := by
    have := srt_set ordI h.srt k (n, s)
    unfold kSet at this
    rwa [if_pos ((has_at_rank ordI h.srt k).2 ⟨_, hx⟩)] at this
  have HS := Lib.hid hsrt
  have HM0 := Lib.hid hM0
  have HB1 := Lib.hid hB1
  have HH := Lib.hid h
  have hj : kRank ltI l k < l.length := (List.getElem?_eq_some_iff.1 hx).1
  clear h hsrt hM0 hB1
  generalize hrk : kRank ltI l k = r at *
  have HX := Lib.hid hx
  clear hrk hx
  go_enter Try.func41, Try.ntmps41
  go_wp2_with fail
  rw [← hW0]
  clear hW0
  refine hv.mono ?_
  rintro e w' ⟨rfl, rfl⟩
  go_wp2_with fail
  refine hf.mono ?_
  rintro e w1 ⟨rfl, hb⟩
  have hM := HM0.out.below hb
  obtain ⟨g, rfl, hc, hk, hvv, hvs⟩ := hM.at HX.out
  have hp := hM.pairs
  obtain ⟨cur, hg, hcs, htake⟩ : ∃ cur, w1.heap[g]? = some (.cells cur 195 (0, 0)) ∧ cur.size = c * 3 ∧ cur.toList.take ((l.map celD).length * 3) = (l.map celD).flatten := by
    rcases hM.row.parts with ⟨h1, _⟩ | ⟨g', cap, cur, h1, h2, h3, h4, h5, h6, h7⟩
    · cases h1
    · injection h1 with e1 e2 e3
      injection e1 with e1
      injection e1 with e1
      subst e1; subst e3
      exact ⟨cur, h3, h6, h7⟩
  have hfz := row_frozen hg (r * 3 + 1)
  have hfz2 := row_frozen hg (r * 3 + 2)
  have hbs := hb.size
  have hglt := (hM.own (a := ⟨g, 0, none⟩) rfl).2
  have k0' := (hb.block W.heap.size (by omega)).trans k0
  have k1' := (hb.block (W.heap.size + 1) (by omega)).trans k1
  have k2' := (hb.block (W.heap.size + 1 + 1) (by omega)).trans k2
  have c00 : w1.cell? ⟨W.heap.size, 0, none⟩ = some (.int .i64 n) := by simp [World.cell?, k0']
  have c01 : w1.cell? ⟨W.heap.size, 1, none⟩ = some (.string s) := by simp [World.cell?, k0']
  have c10 : w1.cell? ⟨W.heap.size + 1, 0, none⟩ = some (.int .i64 0) := by simp [World.cell?, k1']
  have c11 : w1.cell? ⟨W.heap.size + 1, 1, none⟩ = some (.string ⟨#[]⟩) := by simp [World.cell?, k1']
  have c20 : w1.cell? ⟨W.heap.size + 1 + 1, 0, none⟩ = some (.int .i64 0) := by simp [World.cell?, k2']
  have c21 : w1.cell? ⟨W.heap.size + 1 + 1, 1, none⟩ = some (.string ⟨#[]⟩) := by simp [World.cell?, k2']
  have f10 : w1.frozen? ⟨W.heap.size + 1, 0, none⟩ = false := by simp [World.frozen?, k1']
  have f11 : w1.frozen? ⟨W.heap.size + 1, 1, none⟩ = false := by simp [World.frozen?, k1']
  have f20 : w1.frozen? ⟨W.heap.size + 1 + 1, 0, none⟩ = false := by simp [World.frozen?, k2']
  have f21 : w1.frozen? ⟨W.heap.size + 1 + 1, 1, none⟩ = false := by simp [World.frozen?, k2']
  have HK1 := Lib.hid k1'
  clear k0' k1' k2'
  have hgl := (HH.out.own (a := ⟨g, 0, none⟩) rfl).2
  have hbl := HH.out.lt
  dsimp only at hgl
  have hB2 : Below (W.heap.size + 1 + 1) w1 ((w1.setCell ⟨W.heap.size + 1 + 1, 0, none⟩ (.int .i64 vn)).setCell ⟨W.heap.size + 1 + 1, 1, none⟩ (.string vs)) := ((Below.refl (W.heap.size + 1 + 1) w1).setCell (p := ⟨W.heap.size + 1 + 1, 0, none⟩) (Nat.le_refl (W.heap.size + 1 + 1)) _).setCell (p := ⟨W.heap.size + 1 + 1, 1, none⟩) (Nat.le_refl (W.heap.size + 1 + 1)) _
  have hp2 := (hB2.cell (p := ⟨b, 1, none⟩) (show b < _ by omega)).trans hp
  have hvv2 := (hB2.cell (p := ⟨g, r * 3 + 1, none⟩) (show g < _ by omega)).trans hvv
  have hvs2 := (hB2.cell (p := ⟨g, r * 3 + 2, none⟩) (show g < _ by omega)).trans hvs
  have c002 := (hB2.cell (p := ⟨W.heap.size, 0, none⟩) (show W.heap.size < _ by omega)).trans c00
  have c012 := (hB2.cell (p := ⟨W.heap.size, 1, none⟩) (show W.heap.size < _ by omega)).trans c01
  have hfz3 := (hB2.frozen (p := ⟨g, r * 3 + 1, none⟩) (show g < _ by omega)).trans hfz
  have hfz4 := (hB2.frozen (p := ⟨g, r * 3 + 2, none⟩) (show g < _ by omega)).trans hfz2
  have HG := Lib.hid (And.intro hg (And.intro hcs htake))
  have HM := Lib.hid hM
  have HBB := Lib.hid hb
  have hr0 : (0 : Int) ≤ (r : Int) := by omega
  have hr1 : (r : Int) < (l.length : Int) := by omega
  clear hM hg hcs htake hk k0 k1 k2 hb hf hv
  generalize hln : l.length = n' at *
  have HN := Lib.hid hln
  clear hln
  have HB2 := Lib.hid hB2
  clear hB2
  go_wp2
  go_region
  all_goals go_wp2
  all_goals
    have h9 := set_two (w := (((w1.setCell ⟨W.heap.size + 1 + 1, 0, none⟩ (.int .i64 vn)).setCell ⟨W.heap.size + 1 + 1, 1, none⟩ (.string vs)).setCell ⟨g, r * 3 + 1, none⟩ (.int .i64 n)).setCell ⟨g, r * 3 + 2, none⟩ (.string s)) (b := W.heap.size + 1) (t := 76) (x := .int .i64 0) (y := .string ⟨#[]⟩)
      (by rw [Below.heap_setCell _ _ _ _ (by show W.heap.size + 1 ≠ g; omega), Below.heap_setCell _ _ _ _ (by show W.heap.size + 1 ≠ g; omega), Below.heap_setCell _ _ _ _ (by show W.heap.size + 1 ≠ W.heap.size + 1 + 1; omega), Below.heap_setCell _ _ _ _ (by show W.heap.size + 1 ≠ W.heap.size + 1 + 1; omega)]; exact HK1.out) (.int .i64 vn) (.string vs)
    have c9 := cell_of h9 (o := 0) (v := .int .i64 vn) rfl
    have c9' := cell_of h9 (o := 1) (v := .string vs) rfl
    have hlt := HM.out.lt
    refine bodyPost_ret (v := .tuple #[.agg #[.int .i64 vn, .string vs], .bool true, .int .i64 0]) (by simp [results, Try.results41, go_sem, c9, c9']) rfl ⟨rfl, ?_, ?_⟩
    · have m1 := HM.out.same HB2.out.size (HB2.out.block _ (by omega)) (fun a ha => by cases ha; exact HB2.out.block g (by omega))
      have m2 := m1.setVal HX.out HS.out
      exact ((m2.new (m := W.heap.size + 1) (by omega) (fun a ha => by cases ha; show g ≠ _; omega) 0 _).new (m := W.heap.size + 1) (by omega) (fun a ha => by cases ha; show g ≠ _; omega) 1 _).below Below.drewSelf
    · have t1 : Touch b (some ⟨g, 0, none⟩) W w1 := Touch.of_below (HB1.out.trans (HBB.out.mono (by omega)))
      exact ((((((t1.new (m := W.heap.size + 1 + 1) (by omega) _ _).new (m := W.heap.size + 1 + 1) (by omega) _ _).row (a := ⟨g, 0, none⟩) _ _).row (a := ⟨g, 0, none⟩) _ _).new (m := W.heap.size + 1) (by omega) _ _).new (m := W.heap.size + 1) (by omega) _ _).drew

/-- The same map with other pairs in another row. -/
theorem MapD.newRow {W w' : World} {base b n c : Nat} {p : Option Addr} {l l' : List (Int × (Int × ByteArray))} (h : MapD W base b p c l) {v' : Value} (hg : W.grownBy w' (Value.slice p n c).ownBlock)
    (hrow : RowIs w' base 195 3 v' (l'.map celD)) (hh : v'.ownBlock = (Value.slice p n c).ownBlock ∨ ∃ r, v'.ownBlock = some r ∧ W.heap.size ≤ r) (hs : Srt ltI l') :
    ∃ p' c', v' = .slice p' l'.length c' ∧ w'.cell? ⟨b, 1, none⟩ = some (.slice p l.length c) ∧ w'.frozen? ⟨b, 1, none⟩ = false ∧ MapD (w'.setCell ⟨b, 1, none⟩ v') base b p' c' l' ∧ Touch b p W (w'.setCell ⟨b, 1, none⟩ v') ∧ Head p p' W.heap.size := by
  have hob : some b ≠ (Value.slice p n c).ownBlock := by
    cases p with
    | none => simp [Value.ownBlock]
    | some a => simp only [Value.ownBlock]; intro e; injection e with e; exact h.apart a rfl e.symm
  have hb' : w'.heap[b]? = some (.cells #[.pointer (some ⟨b, 0, none⟩), .slice p l.length c] 188 (0, 0)) := (hg.block b h.lt hob).trans h.head
  have hvb : v'.ownBlock ≠ some b := by
    rcases hh with e | ⟨r, e, hr⟩
    · rw [e]; exact fun e2 => hob e2.symm
    · rw [e]; intro e2; injection e2 with e2; have := h.lt; omega
  have hrow2 := hrow
  obtain ⟨p', c', rfl⟩ : ∃ p' c', v' = .slice p' l'.length c' := by
    rcases hrow.parts with ⟨h1, h2⟩ | ⟨g, cap, cur, h1, _⟩
    · have : l' = [] := by simpa using h2
      subst this
      exact ⟨none, 0, h1⟩
    · exact ⟨some ⟨g, 0, none⟩, cap, by rw [h1, List.length_map]⟩
  refine ⟨p', c', rfl, by simp [World.cell?, hb'], by simp [World.frozen?, hb'], ⟨set_head hb' _, h.low, hrow.kept (row := some b) ⟨rfl, rfl, rfl, by simp [World.setCell], fun k _ hk => Below.heap_setCell _ _ _ _ (fun e => hk (by rw [e]))⟩ (.inr hvb), fun a ha => ?_, hs⟩, (Touch.of_grown hg).set _ _, fun a' ha' => ?_⟩
  · subst ha; intro e; exact hvb (by simp only [Value.ownBlock]; rw [e])
  · subst ha'
    rcases hh with e | ⟨r, e, hr⟩
    · cases p with
      | none => simp [Value.ownBlock] at e
      | some a => simp only [Value.ownBlock] at e; injection e with e; exact .inl ⟨a, rfl, e.symm⟩
    · simp only [Value.ownBlock] at e; injection e with e; exact .inr (by omega)

theorem insert_mapD (l : List (Int × (Int × ByteArray))) (r : Nat) (y : Int × (Int × ByteArray)) : (l.map celD).take r ++ celD y :: (l.map celD).drop r = (l.take r ++ y :: l.drop r).map celD := by
  rw [← List.map_take, ← List.map_drop]; simp

set_option maxHeartbeats 800000 in
set_option maxRecDepth 100000 in
theorem setNewD {W : World} {base b : Nat} {p : Option Addr} {c : Nat} {l : List (Int × (Int × ByteArray))} (h : MapD W base b p c l) (hn : l.length ≤ 1000000) (k : Int) (x : (Int × ByteArray)) (hf0 : kHas l k = false) (hbase : base ≤ W.heap.size) :
    Calls Try.prog 41 #[.pointer (some ⟨b, 0, none⟩), Value.int .u8 k, pvD x] W fun e w' => e = .returned (.tuple #[.agg #[.int .i64 0, .string ⟨#[]⟩], .bool false, .int .i64 0]) ∧
      ∃ p' c', MapD w' base b p' c' (l.take (kRank ltI l k) ++ (k, x) :: l.drop (kRank ltI l k)) ∧ Touch b p W w' ∧ Head p p' W.heap.size := by
  obtain ⟨n, s⟩ := x
  have hB1 : Below W.heap.size W (((W.alloc (.cells #[.int .i64 n, .string s] 76)).alloc (.cells #[.int .i64 0, .string ⟨#[]⟩] 76)).alloc (.cells #[.int .i64 0, .string ⟨#[]⟩] 76)) := (((Below.refl _ _).alloc (Nat.le_refl _) _).alloc (by simp) _).alloc (by simp; omega) _
  obtain ⟨W0, hW0⟩ : ∃ W0, W0 = ((W.alloc (.cells #[.int .i64 n, .string s] 76)).alloc (.cells #[.int .i64 0, .string ⟨#[]⟩] 76)).alloc (.cells #[.int .i64 0, .string ⟨#[]⟩] 76) := ⟨_, rfl⟩
  have hsz : W0.heap.size = W.heap.size + 1 + 1 + 1 := by rw [hW0]; simp
  have k0 : W0.heap[W.heap.size]? = some (.cells #[.int .i64 n, .string s] 76 (0, 0)) := by
    rw [hW0, Below.heap_alloc _ _ _ (by simp; omega), Below.heap_alloc _ _ _ (by simp)]; exact heap_alloc_new W _
  have k1 : W0.heap[W.heap.size + 1]? = some (.cells #[.int .i64 0, .string ⟨#[]⟩] 76 (0, 0)) := by
    rw [hW0, Below.heap_alloc _ _ _ (by simp)]
    have := heap_alloc_new (W.alloc (.cells #[.int .i64 n, .string s] 76)) (.cells #[.int .i64 0, .string ⟨#[]⟩] 76)
    rwa [World.size_alloc] at this
  have k2 : W0.heap[W.heap.size + 1 + 1]? = some (.cells #[.int .i64 0, .string ⟨#[]⟩] 76 (0, 0)) := by
    rw [hW0]
    have := heap_alloc_new ((W.alloc (.cells #[.int .i64 n, .string s] 76)).alloc (.cells #[.int .i64 0, .string ⟨#[]⟩] 76)) (.cells #[.int .i64 0, .string ⟨#[]⟩] 76)
    rwa [World.size_alloc, World.size_alloc] at this
  rw [← hW0] at hB1
  have hM0 := h.below hB1
  have hf := findD hM0 hn k
  have hv := validD hM0
  rw [hf0] at hf
  have hsrt : Srt ltI (l.take (kRank ltI l k) ++ (k, (n, s)) :: l.drop (kRank ltI l k)) := by
    have := srt_set ordI h.srt k (n, s)
    unfold kSet at this
    rwa [if_neg (by rw [hf0]; decide)] at this
  have HS := Lib.hid hsrt
  have HM0 := Lib.hid hM0
  have HB1 := Lib.hid hB1
  have HH := Lib.hid h
  have hle := kRank_le ltI l k
  clear h hsrt hf0 hM0 hB1
  generalize hrk : kRank ltI l k = r at *
  clear hrk
  go_enter Try.func41, Try.ntmps41
  go_wp2_with fail
  rw [← hW0]
  clear hW0
  refine hv.mono ?_
  rintro e w' ⟨rfl, rfl⟩
  go_wp2_with fail
  refine hf.mono ?_
  rintro e w1 ⟨rfl, hb⟩
  have hM := HM0.out.below hb
  have hp := hM.pairs
  have HM := Lib.hid hM
  have hbs := hb.size
  have hbb := hM.lt
  have hbl := HH.out.lt
  have k0' := (hb.block W.heap.size (by omega)).trans k0
  have k1' := (hb.block (W.heap.size + 1) (by omega)).trans k1
  have k2' := (hb.block (W.heap.size + 1 + 1) (by omega)).trans k2
  have c00 : w1.cell? ⟨W.heap.size, 0, none⟩ = some (.int .i64 n) := by simp [World.cell?, k0']
  have c01 : w1.cell? ⟨W.heap.size, 1, none⟩ = some (.string s) := by simp [World.cell?, k0']
  have HBB := Lib.hid hb
  have HK := Lib.hid (And.intro k0' (And.intro k1' k2'))
  have hA : Below w1.heap.size w1 (w1.alloc (.cells #[.int .u8 k, .int .i64 n, .string s] 195)).drew := Below.drewN' 1 ((Below.refl _ _).alloc (Nat.le_refl _) _)
  have hM2 := hM.below hA
  have hvb : (Value.slice p l.length c).ownBlock ≠ some w1.heap.size := by
    intro e
    have := (hM.row.lt _ e).2
    omega
  have hi := insD base w1.heap.size (.slice p l.length c) (l.map celD) (celD (k, (n, s))) r _ hM2.row (by simpa using hle) (by simpa using hn) (celD_ok _) (heap_alloc_new w1 _) hvb (by simp [World.drew]; omega)
  rw [insert_mapD] at hi
  have HM2 := Lib.hid hM2
  have HA := Lib.hid hA
  have HI := Lib.hid hi
  clear hM k0 k1 k2 k0' k1' k2' hb hf hv hM2 hA hvb hi
  go_wp2_with fail
  go_region_with (go_at_call 132; refine HI.out.mono ?_; rintro e w3 ⟨v', rfl, hrow, hgrow, hhead⟩; obtain ⟨p', c', rfl, hc1, hf1, hmap, htouch, hhd⟩ := HM2.out.newRow hgrow hrow hhead HS.out; have HT := Lib.hid (And.intro hgrow (And.intro hmap (And.intro htouch hhd))); clear hgrow hrow hhead hmap htouch hhd; generalize (l.take r ++ (k, (n, s)) :: l.drop r).length = n' at *)
  all_goals
    obtain ⟨hgrow, hmap, htouch, hhd⟩ := HT.out
    have hsa : (w1.alloc (.cells #[.int .u8 k, .int .i64 n, .string s] 195)).drew.heap.size = w1.heap.size + 1 := by simp [World.drew]
    have q1 := (htouch.block (W.heap.size + 1) (by omega) (by omega) (fun a ha => by have := (HH.out.own ha).2; omega)).trans ((HA.out.block _ (by omega)).trans HK.out.2.1)
    have q2 := (htouch.block (W.heap.size + 1 + 1) (by omega) (by omega) (fun a ha => by have := (HH.out.own ha).2; omega)).trans ((HA.out.block _ (by omega)).trans HK.out.2.2)
    have t1 : Touch b p W (w3.setCell ⟨b, 1, none⟩ (.slice p' n' c')) := (Touch.of_below ((HB1.out.trans (HBB.out.mono (by omega))).trans (HA.out.mono (by omega)))).trans htouch
    have hhd' := hhd.mono (M := W.heap.size) (by omega)
    have hpn : ∀ a, p' = some a → a.block < W.heap.size ∨ W.heap.size + 1 + 1 + 1 ≤ a.block := fun a ha => by
      rcases hhd a ha with ⟨a0, h0, h2⟩ | h0
      · have := (HH.out.own h0).2; omega
      · omega
    clear hc1 hf1 HT hgrow htouch hhd HI HM2 HA hsa
    generalize w3.setCell ⟨b, 1, none⟩ (.slice p' n' c') = W4 at *
    have c10 := cell_of q1 (o := 0) (v := .int .i64 0) rfl
    have c11 := cell_of q1 (o := 1) (v := .string ⟨#[]⟩) rfl
    have c20 := cell_of q2 (o := 0) (v := .int .i64 0) rfl
    have c21 := cell_of q2 (o := 1) (v := .string ⟨#[]⟩) rfl
    have f10 : W4.frozen? ⟨W.heap.size + 1, 0, none⟩ = false := by simp [World.frozen?, q1]
    have f11 : W4.frozen? ⟨W.heap.size + 1, 1, none⟩ = false := by simp [World.frozen?, q1]
    have HMP := Lib.hid hmap
    have HT1 := Lib.hid t1
    have HHD := Lib.hid hhd'
    have HPN := Lib.hid hpn
    have h9 := set_two q1 (.int .i64 0) (.string ⟨#[]⟩)
    have c9 := cell_of h9 (o := 0) (v := .int .i64 0) rfl
    have c9' := cell_of h9 (o := 1) (v := .string ⟨#[]⟩) rfl
    clear hmap t1 hhd' hpn q1 q2 h9
    go_wp2
    refine bodyPost_ret (v := .tuple #[.agg #[.int .i64 0, .string ⟨#[]⟩], .bool false, .int .i64 0]) (by simp [results, Try.results41, go_sem, c9, c9']) rfl ⟨rfl, p', c', ?_, ?_, HHD.out⟩
    · exact (HMP.out.new (m := W.heap.size + 1) (by omega) (fun a ha => by have := HPN.out a ha; omega) 0 _).new (m := W.heap.size + 1) (by omega) (fun a ha => by have := HPN.out a ha; omega) 1 _
    · exact (HT1.out.new (m := W.heap.size + 1) (by omega) _ _).new (m := W.heap.size + 1) (by omega) _ _
end Go.Proofs.Ytpnhklehpilopaa
