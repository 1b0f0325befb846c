/- What the calls on an ordered map answer, and what they leave. -/
import Derived.Test.YtpnhklehpilopaaOmAskE
import Derived.Test.YtpnhklehpilopaaOmMem2
namespace Go.Proofs.Ytpnhklehpilopaa
open Go Go.RowKit

set_option maxHeartbeats 800000 in
set_option maxRecDepth 100000 in
theorem findE {W : World} {base b : Nat} {p : Option Addr} {c : Nat} {l : List (Int × Option Addr)} (h : MapE W base b p c l) (hn : l.length ≤ 1000000) (k : Int) :
    Calls Try.prog 134 #[.pointer (some ⟨b, 0, none⟩), Value.int .u8 k] W fun e w' => e = .returned (.tuple #[.int .i64 (kRank ltI l k : Nat), .bool (kHas l k)]) ∧ Below W.heap.size W w' := by
  have hr := rankE h hn k
  have H := Lib.hid h
  have hle := kRank_le ltI l k
  have hhas := has_at_rank ordI h.srt k
  generalize hrk : kRank ltI l k = r at *
  clear hrk
  cases hx : l[r]? with
  | none =>
    have hge : l.length ≤ r := List.getElem?_eq_none_iff.1 hx
    have hf : kHas l k = false := by
      cases hh : kHas l k with
      | false => rfl
      | true => obtain ⟨v, hv⟩ := hhas.1 hh; rw [hx] at hv; cases hv
    have HF := Lib.hid hf
    rw [hf]
    clear hf hhas hx h
    go_enter Try.func134, Try.ntmps134
    go_wp2_with (go_at_call 203; refine hr.mono ?_; rintro e w' ⟨rfl, hb⟩)
    have hp := pickNoneE (H.out.below hb) (r : Int) (.inr (by omega))
    go_wp2_with (go_at_call 204; refine hp.mono ?_; rintro e w2 ⟨rfl, hb2⟩)
    go_ret2
    exact ⟨rfl, below_then hb hb2⟩
  | some x =>
    obtain ⟨k', v⟩ := x
    by_cases hk : k' = k
    · subst hk
      have hf : kHas l k' = true := hhas.2 ⟨v, hx⟩
      rw [hf]
      have HX := Lib.hid hx
      have heq : (k' == k') = true := by simp
      clear hf hhas hx h
      go_enter Try.func134, Try.ntmps134
      go_wp2_with (go_at_call 203; refine hr.mono ?_; rintro e w' ⟨rfl, hb⟩)
      have hp := pickE (H.out.below hb) r (k', v) HX.out
      go_wp2_with (go_at_call 204; refine hp.mono ?_; rintro e w2 ⟨rfl, hb2⟩)
      go_ret2
      exact ⟨rfl, below_then hb hb2⟩
    · have hf : kHas l k = false := by
        cases hh : kHas l k with
        | false => rfl
        | true => obtain ⟨u, hu⟩ := hhas.1 hh; rw [hx] at hu; cases hu; exact absurd rfl hk
      rw [hf]
      have HX := Lib.hid hx
      have heq : (k' == k) = false := by simp [hk]
      have HK := Lib.hid hk
      clear hf hhas hx h hk
      go_enter Try.func134, Try.ntmps134
      go_wp2_with (go_at_call 203; refine hr.mono ?_; rintro e w' ⟨rfl, hb⟩)
      have hp := pickE (H.out.below hb) r (k', v) HX.out
      go_wp2_with (go_at_call 204; refine hp.mono ?_; rintro e w2 ⟨rfl, hb2⟩)
      go_ret2
      exact ⟨rfl, below_then hb hb2⟩

set_option maxHeartbeats 800000 in
set_option maxRecDepth 100000 in
theorem newE (w : World) : Calls Try.prog 40 #[] w fun e w' => e = .returned (.pointer (some ⟨w.heap.size, 0, none⟩)) ∧ MapE w' w.heap.size w.heap.size none 0 [] ∧ Below w.heap.size w w' ∧ w'.heap.size = w.heap.size + 1 := by
  go_enter Try.func40, Try.ntmps40
  go_wp2
  go_ret
  exact ⟨rfl, ⟨heap_alloc_new w _, Nat.le_refl _, ⟨World.ownsRow_nil _ _ _ _, (fun e he => by simp at he)⟩, (fun a h => by cases h), srt_nil _⟩, (Below.refl _ _).alloc (Nat.le_refl _) _, by simp⟩

set_option maxHeartbeats 800000 in
set_option maxRecDepth 100000 in
theorem lenE {W : World} {base b : Nat} {p : Option Addr} {c : Nat} {l : List (Int × Option Addr)} (h : MapE W base b p c l) :
    Calls Try.prog 47 #[.pointer (some ⟨b, 0, none⟩)] W fun e w' => e = .returned (.int .i64 l.length) ∧ w' = W := by
  have hl := listE h
  clear h
  generalize l.length = n at *
  go_enter Try.func47, Try.ntmps47
  go_wp2_with (go_at_call 140; refine hl.mono ?_; rintro e w' ⟨rfl, rfl⟩)
  go_ret
  exact ⟨rfl, rfl⟩

theorem MapE.setVal {W : World} {base b g : Nat} {c : Nat} {l : List (Int × Option Addr)} (h : MapE W base b (some ⟨g, 0, none⟩) c l) {r : Nat} {k : Int} {v x : Option Addr} (hx : l[r]? = some (k, v)) (hs : Srt ltI (l.set r (k, x))) :
    MapE (W.setCell ⟨g, r * 2 + 1, none⟩ (Value.pointer x)) base b (some ⟨g, 0, none⟩) c (l.set r (k, x)) := by
  have hne : b ≠ g := fun e => h.apart _ rfl e.symm
  have hr : r < l.length := (List.getElem?_eq_some_iff.1 hx).1
  have hm : (l.map celE)[r]? = some [Value.int .u8 k, Value.pointer v] := by simp [hx, celE]
  have he : (l.set r (k, x)).map celE = (l.map celE).set r [Value.int .u8 k, Value.pointer x] := by rw [List.map_set]; rfl
  refine ⟨?_, h.low, ?_, h.apart, hs⟩
  · rw [Below.heap_setCell _ _ _ _ hne, List.length_set]; exact h.head
  · rcases h.row.parts with ⟨h1, _⟩ | ⟨g', cap, cur, h1, h2, h3, h4, h5, h6, h7⟩
    · cases h1
    · injection h1 with e1 e2 e3
      injection e1 with e1
      injection e1 with e1
      subst e1; subst e3
      have hset := setCell_eq_setRow W g (r * 2 + 1) cur 198 (0, 0) (Value.pointer x) h3
      rw [hset, List.length_set, he]
      rw [List.length_map] at h4 h7
      refine rowIs_mk (cur := (cur.setIfInBounds (r * 2 + 1) (Value.pointer x)).toList) (by simp) h2 (by rw [Array.toArray_toList]; exact setRow_heap W g cur _ 198 _ h3) h4 h5 (by simpa using h6) ?_ ?_
      · intro e hel
        rcases List.mem_or_eq_of_mem_set hel with h8 | rfl
        · exact h.row.2 e h8
        · exact celE_ok (k, x)
      · rw [Array.toList_setIfInBounds, List.take_set, h7, flat_set h.row.2 hm]

set_option maxHeartbeats 800000 in
set_option maxRecDepth 100000 in
theorem setHasE {W : World} {base b : Nat} {p : Option Addr} {c : Nat} {l : List (Int × Option Addr)} (h : MapE W base b p c l) (hn : l.length ≤ 1000000) (k : Int) (x v : Option Addr) (hx : l[kRank ltI l k]? = some (k, v)) :
    Calls Try.prog 42 #[.pointer (some ⟨b, 0, none⟩), Value.int .u8 k, Value.pointer x] W fun e w' => e = .returned (.tuple #[Value.pointer v, .bool true, .int .i64 0]) ∧ MapE w' base b p c (l.set (kRank ltI l k) (k, x)) ∧ Touch b p W w' := by
  have hf := findE h hn k
  rw [(has_at_rank ordI h.srt k).2 ⟨v, hx⟩] at hf
  have hv := validE h
  have H := Lib.hid h
  have hsrt : Srt ltI (l.set (kRank ltI l k) (k, x)) := by
    have := srt_set ordI h.srt k x
    unfold kSet at this
    rwa [if_pos ((has_at_rank ordI h.srt k).2 ⟨v, hx⟩)] at this
  have HS := Lib.hid hsrt
  have hj : kRank ltI l k < l.length := (List.getElem?_eq_some_iff.1 hx).1
  clear h hsrt
  generalize hrk : kRank ltI l k = r at *
  have HX := Lib.hid hx
  clear hrk hx
  go_enter Try.func42, Try.ntmps42
  go_wp2_with (go_at_call 133; refine hv.mono ?_; rintro e w' ⟨rfl, rfl⟩)
  go_wp2_with (go_at_call 134; refine hf.mono ?_; rintro e w1 ⟨rfl, hb⟩)
  have hM := H.out.below hb
  obtain ⟨g, rfl, hc, hk, hvv⟩ := hM.at HX.out
  have hp := hM.pairs
  obtain ⟨cur, hg, hcs, htake⟩ : ∃ cur, w1.heap[g]? = some (.cells cur 198 (0, 0)) ∧ cur.size = c * 2 ∧ cur.toList.take ((l.map celE).length * 2) = (l.map celE).flatten := by
    rcases hM.row.parts with ⟨h1, _⟩ | ⟨g', cap, cur, h1, h2, h3, h4, h5, h6, h7⟩
    · cases h1
    · injection h1 with e1 e2 e3
      injection e1 with e1
      injection e1 with e1
      subst e1; subst e3
      exact ⟨cur, h3, h6, h7⟩
  have hfz := row_frozen hg (r * 2 + 1)
  have HG := Lib.hid (And.intro hg (And.intro hcs htake))
  have HM := Lib.hid hM
  have hr0 : (0 : Int) ≤ (r : Int) := by omega
  have hr1 : (r : Int) < (l.length : Int) := by omega
  clear hM hg hcs htake hk
  generalize hln : l.length = n at *
  have HN := Lib.hid hln
  clear hln
  go_region
  all_goals go_wp2
  all_goals go_ret3
  all_goals exact ⟨rfl, (HM.out.setVal HX.out HS.out).below Below.drewSelf, ((Touch.of_below hb).row (a := ⟨g, 0, none⟩) _ _).drew⟩

/-- The same map with other pairs in another row. -/
theorem MapE.newRow {W w' : World} {base b n c : Nat} {p : Option Addr} {l l' : List (Int × Option Addr)} (h : MapE W base b p c l) {v' : Value} (hg : W.grownBy w' (Value.slice p n c).ownBlock)
    (hrow : RowIs w' base 198 2 v' (l'.map celE)) (hh : v'.ownBlock = (Value.slice p n c).ownBlock ∨ ∃ r, v'.ownBlock = some r ∧ W.heap.size ≤ r) (hs : Srt ltI l') :
    ∃ p' c', v' = .slice p' l'.length c' ∧ w'.cell? ⟨b, 1, none⟩ = some (.slice p l.length c) ∧ w'.frozen? ⟨b, 1, none⟩ = false ∧ MapE (w'.setCell ⟨b, 1, none⟩ v') base b p' c' l' ∧ Touch b p W (w'.setCell ⟨b, 1, none⟩ v') ∧ Head p p' W.heap.size := by
  have hob : some b ≠ (Value.slice p n c).ownBlock := by
    cases p with
    | none => simp [Value.ownBlock]
    | some a => simp only [Value.ownBlock]; intro e; injection e with e; exact h.apart a rfl e.symm
  have hb' : w'.heap[b]? = some (.cells #[.pointer (some ⟨b, 0, none⟩), .slice p l.length c] 191 (0, 0)) := (hg.block b h.lt hob).trans h.head
  have hvb : v'.ownBlock ≠ some b := by
    rcases hh with e | ⟨r, e, hr⟩
    · rw [e]; exact fun e2 => hob e2.symm
    · rw [e]; intro e2; injection e2 with e2; have := h.lt; omega
  have hrow2 := hrow
  obtain ⟨p', c', rfl⟩ : ∃ p' c', v' = .slice p' l'.length c' := by
    rcases hrow.parts with ⟨h1, h2⟩ | ⟨g, cap, cur, h1, _⟩
    · have : l' = [] := by simpa using h2
      subst this
      exact ⟨none, 0, h1⟩
    · exact ⟨some ⟨g, 0, none⟩, cap, by rw [h1, List.length_map]⟩
  refine ⟨p', c', rfl, by simp [World.cell?, hb'], by simp [World.frozen?, hb'], ⟨set_head hb' _, h.low, hrow.kept (row := some b) ⟨rfl, rfl, rfl, by simp [World.setCell], fun k _ hk => Below.heap_setCell _ _ _ _ (fun e => hk (by rw [e]))⟩ (.inr hvb), fun a ha => ?_, hs⟩, (Touch.of_grown hg).set _ _, fun a' ha' => ?_⟩
  · subst ha; intro e; exact hvb (by simp only [Value.ownBlock]; rw [e])
  · subst ha'
    rcases hh with e | ⟨r, e, hr⟩
    · cases p with
      | none => simp [Value.ownBlock] at e
      | some a => simp only [Value.ownBlock] at e; injection e with e; exact .inl ⟨a, rfl, e.symm⟩
    · simp only [Value.ownBlock] at e; injection e with e; exact .inr (by omega)

theorem insert_mapE (l : List (Int × Option Addr)) (r : Nat) (y : Int × Option Addr) : (l.map celE).take r ++ celE y :: (l.map celE).drop r = (l.take r ++ y :: l.drop r).map celE := by
  rw [← List.map_take, ← List.map_drop]; simp

set_option maxHeartbeats 800000 in
set_option maxRecDepth 100000 in
theorem setNewE {W : World} {base b : Nat} {p : Option Addr} {c : Nat} {l : List (Int × Option Addr)} (h : MapE W base b p c l) (hn : l.length ≤ 1000000) (k : Int) (x : Option Addr) (hf0 : kHas l k = false) (hbase : base ≤ W.heap.size) :
    Calls Try.prog 42 #[.pointer (some ⟨b, 0, none⟩), Value.int .u8 k, Value.pointer x] W fun e w' => e = .returned (.tuple #[.pointer none, .bool false, .int .i64 0]) ∧
      ∃ p' c', MapE w' base b p' c' (l.take (kRank ltI l k) ++ (k, x) :: l.drop (kRank ltI l k)) ∧ Touch b p W w' ∧ Head p p' W.heap.size := by
  have hf := findE h hn k
  rw [hf0] at hf
  have hv := validE h
  have H := Lib.hid h
  have hsrt : Srt ltI (l.take (kRank ltI l k) ++ (k, x) :: l.drop (kRank ltI l k)) := by
    have := srt_set ordI h.srt k x
    unfold kSet at this
    rwa [if_neg (by rw [hf0]; decide)] at this
  have HS := Lib.hid hsrt
  have hle := kRank_le ltI l k
  clear h hsrt hf0
  generalize hrk : kRank ltI l k = r at *
  clear hrk
  go_enter Try.func42, Try.ntmps42
  go_wp2_with fail
  refine hv.mono ?_
  rintro e w' ⟨rfl, rfl⟩
  go_wp2_with fail
  refine hf.mono ?_
  rintro e w1 ⟨rfl, hb⟩
  have hM := H.out.below hb
  have hp := hM.pairs
  have HM := Lib.hid hM
  have hbs := hb.size
  have hbb := hM.lt
  have hA : Below w1.heap.size w1 (w1.alloc (.cells #[Value.int .u8 k, Value.pointer x] 198)) := (Below.refl _ _).alloc (Nat.le_refl _) _
  have hM2 := hM.below hA
  have hvb : (Value.slice p l.length c).ownBlock ≠ some w1.heap.size := by
    intro e
    have := (hM.row.lt _ e).2
    omega
  have hi := insE base w1.heap.size (.slice p l.length c) (l.map celE) (celE (k, x)) r _ hM2.row (by simpa using hle) (by simpa using hn) (celE_ok _) (heap_alloc_new w1 _) hvb (by simp; omega)
  rw [insert_mapE] at hi
  have HM2 := Lib.hid hM2
  have HA := Lib.hid hA
  clear hM hM2 hA hvb
  go_wp2_with fail
  refine hi.mono ?_
  rintro e w3 ⟨v', rfl, hrow, hgrow, hhead⟩
  obtain ⟨p', c', rfl, hc1, hf1, hmap, htouch, hhd⟩ := HM2.out.newRow hgrow hrow hhead HS.out
  have HB := Lib.hid (below_then hb HA.out)
  have HT := Lib.hid htouch
  have HMP := Lib.hid hmap
  have HHD := Lib.hid hhd
  clear hi hrow hgrow hhead hmap htouch hhd
  generalize (l.take r ++ (k, x) :: l.drop r).length = n' at *
  go_wp2
  go_ret3
  exact ⟨rfl, p', c', HMP.out, (Touch.of_below HB.out).trans HT.out, HHD.out.mono HB.out.size⟩
end Go.Proofs.Ytpnhklehpilopaa
