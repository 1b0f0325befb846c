/- Several texts in one: PqNewI, PqDelI, PqPushI, PqAbs2, PqRemI, PqPopI, PqChg, PqHoldI. -/
import Derived.Test.YtpnhklehpilopaaPqGI
import Derived.OwnWalk
import Derived.Test.YtpnhklehpilopaaOmMem
import Derived.Test.YtpnhklehpilopaaProg
import Derived.Laws.Externs
import Derived.Lib.Hide
import Derived.Test.YtpnhklehpilopaaPqAbs
namespace Go.Proofs.Ytpnhklehpilopaa
open Go Go.RowKit

/-- The cells of a zero queue. -/
def zQI : Array Value := (Value.pointer none :: Value.int .i64 0 :: Value.slice none 0 0 :: List.replicate 1024 (Value.int .i64 0)).toArray

theorem zcQI : Try.zeroCells259 = zQI := by kernel_rfl

theorem newCellsI (b S : Nat) : (Try.zeroCells259.setIfInBounds 1 (Value.int .i64 (S : Nat))).setIfInBounds 0 (Value.pointer (some ⟨b, 0, none⟩)) = hdQ b S (.slice none 0 0) (fun _ => 0) := by
  rw [zcQI, hdQ_zero]
  generalize hr : List.replicate 1024 (Value.int .i64 0) = r
  unfold zQI
  rw [hr]
  simp

theorem pq_newI {W' : World} {b S : Nat} (h1 : 1 ≤ S) (h2 : S ≤ 1024) (hb : W'.heap[b]? = some (.cells (hdQ b S (.slice none 0 0) (fun _ => 0)) 259 (0, 0))) : PQI W' 0 b none S (fun _ => none) :=
  ⟨0, [], fun _ => 0, ⟨hb, Nat.zero_le _, ⟨World.ownsRow_nil _ _ _ _, (fun e he => by simp at he)⟩, (fun a h => by cases h), h1, h2, by simp⟩, ⟨fun i x h => by simp at h, fun k h => absurd rfl h⟩, hp_nil _, qm_nil⟩

set_option maxHeartbeats 800000 in
set_option maxRecDepth 100000 in
theorem newI (S : Nat) (h1 : 1 ≤ S) (h2 : S ≤ 1024) (W : World) : Calls Try.prog 141 #[.int .i64 (S : Nat)] W fun e w' => e = .returned (.tuple #[.pointer (some ⟨W.heap.size, 0, none⟩), .int .i64 0]) ∧ PQI w' 0 W.heap.size none S (fun _ => none) ∧ Below W.heap.size W w' ∧ w'.heap.size = W.heap.size + 1 := by
  have h3 : ¬ (S : Int) < 1 := by omega
  have h4 : ¬ (1024 : Int) < (S : Int) := by omega
  have hn : Hid (∀ W', W'.heap[W.heap.size]? = some (.cells (hdQ W.heap.size S (.slice none 0 0) (fun _ => 0)) 259 (0, 0)) → PQI W' 0 W.heap.size none S (fun _ => none)) := Lib.hid fun W' hb => pq_newI h1 h2 hb
  go_enter Try.func141, Try.ntmps141
  go_wp2_with fail
  go_ret2
  rw [newCellsI]
  exact ⟨rfl, hn.out _ (heap_alloc_new W _), (Below.refl _ _).alloc (Nat.le_refl _) _, by simp⟩

set_option maxHeartbeats 800000 in
set_option maxRecDepth 100000 in
theorem newBadI (S : Int) (h : S < 1 ∨ 1024 < S) (W : World) : Calls Try.prog 141 #[.int .i64 S] W fun e w' => e = .returned (.tuple #[.pointer none, .int .i64 2]) ∧ w' = W := by
  by_cases h1 : S < 1
  · have hd : decide (S < 1) = true := by simpa using h1
    clear h
    go_enter Try.func141, Try.ntmps141
    go_wp2_with fail
    go_ret2
    exact ⟨rfl, rfl⟩
  · have hd : decide (S < 1) = false := by simpa using h1
    have h2 : decide (1024 < S) = true := by simp; omega
    have h3 : 1024 < S := by omega
    clear h
    go_enter Try.func141, Try.ntmps141
    go_wp2_with fail
    go_ret2
    exact ⟨rfl, rfl⟩
end Go.Proofs.Ytpnhklehpilopaa

namespace Go.Proofs.Ytpnhklehpilopaa
open Go Go.RowKit

theorem infoEI : (Try.prog.info? 261).map (fun i => (i.zero, i.size, i.bytes)) = some (some (.agg #[.int .i64 0, .int .i64 0]), 2, 16) := by kernel_rfl

theorem zeroEI : ∀ w, (zeroValue 261).run Try.prog w = .ok (.agg #[.int .i64 0, .int .i64 0]) w := fun w => by kernel_rfl

set_option maxHeartbeats 2000000 in
set_option maxRecDepth 100000 in
theorem delRoomI (g n cap i : Nat) (cur : List Value) (D : List Value) (w : World) (hi : i < n) (hn : n ≤ 1000000) (hnc : n ≤ cap) (hcm : cap ≤ 9223372036854775807)
    (hg : w.heap[g]? = some (.cells cur.toArray 261 (0, 0))) (hcs : cur.length = cap * 2) (hD : D = (cur.drop ((i + 1) * 2)).take ((n - (i + 1)) * 2)) (h1D : ∀ u ∈ D, u.oneCell' = true) :
    Calls Try.prog 213 #[.slice (some ⟨g, 0, none⟩) n cap, .int .i64 i, .int .i64 (i + 1 : Int)] w fun e w' => e = .returned (.slice (some ⟨g, 0, none⟩) (n - 1) cap) ∧
      w' = (w.drew.setRow g (spl cur (i * 2) D).toArray).setRow g (spl (spl cur (i * 2) D) ((n - 1) * 2) (Value.agg #[.int .i64 0, .int .i64 0]).cells.toList).toArray := by
  have hb0 : (0 : Int) ≤ (i : Int) + 1 := by omega
  have hb1 : (i : Int) + 1 ≤ (n : Int) := by omega
  have htn : ((i : Int) + 1).toNat = i + 1 := by omega
  have hne : ((i : Int) == (i : Int) + 1) = false := by simp; omega
  have hic : i ≤ cap := by omega
  have hb2 : i ≤ n := by omega
  have hb3 : ¬ (cap = i) := by omega
  have hb4 : ¬ (n = i) := by omega
  have hcn : ¬ (cap = n - 1) := by omega
  have hn1 : n - 1 ≤ n := by omega
  have hlen : i + (n - (i + 1)) = n - 1 := by omega
  have hone : n - (n - 1) = 1 := by omega
  have hDl : D.length = (n - (i + 1)) * 2 := by rw [hD]; simp; omega
  obtain ⟨i0, hi0, hz0, hzs, hzb⟩ := info_parts infoEI
  have htl : i * 2 + D.length ≤ cur.length := by rw [hDl, hcs]; omega
  have happ : ∀ ty (A : Addr), (∀ j u, D[j]? = some u → w.drew.cell? (A.add j) = some u) → (Builtin.append_ #[257, 257] ty #[.slice (some ⟨g, 0, none⟩) i cap, .slice (some A) (n - (i + 1)) (cap - (i + 1))]).run Try.prog w.drew = .ok (.slice (some ⟨g, 0, none⟩) (n - 1) cap) (w.drew.setRow g (spl cur (i * 2) D).toArray) := fun ty A hA => by
    have := run_append_room (P := Try.prog) w.drew 257 ty 261 i0 Try.underlying257 hi0 g i cap cur.toArray hg A (n - (i + 1)) (cap - (i + 1)) D (by rw [hzs]; exact hDl) hA h1D (by omega) (by rw [hzs]; simpa using htl)
    rw [hzs, hlen] at this
    exact this
  obtain ⟨W1, hW1⟩ : ∃ W1, W1 = w.drew.setRow g (spl cur (i * 2) D).toArray := ⟨_, rfl⟩
  have hg1 : W1.heap[g]? = some (.cells (spl cur (i * 2) D).toArray 261 (0, 0)) := by rw [hW1]; exact setRow_heap w.drew g cur.toArray _ 261 _ hg
  have hcl : ∀ ty c, (Builtin.clear_ #[257] ty #[.slice (some ⟨g, (n - 1) * 2, none⟩) 1 c]).run Try.prog W1 = .ok (.tuple #[]) (W1.setRow g (spl (spl cur (i * 2) D) ((n - 1) * 2) (Value.agg #[.int .i64 0, .int .i64 0]).cells.toList).toArray) := fun ty c =>
    run_clear_rowK W1 257 261 ty 2 _ Try.underlying257 zeroEI rfl (by decide) g ((n - 1) * 2) c _ hg1 (by rw [spl_length htl, hcs]; omega)
  rw [← hW1] at happ ⊢
  have hW := Lib.hid hW1
  by_cases hce : cap = i + 1
  · have hD0 : D = [] := List.eq_nil_of_length_eq_zero (by rw [hDl]; omega)
    have happ1 := fun ty => happ ty ⟨g, 0, none⟩ (fun j u hj => by rw [hD0] at hj; simp at hj)
    clear hW1 hg1 hg hcs hD h1D hDl htl happ hlen hD0 hz0 hzs hzb hi0
    subst hce
    have h0 : n - (i + 1) = 0 := by omega
    simp only [Nat.sub_self, h0] at happ1
    have hb9 : (i : Int) ≤ (i : Int) + 1 := by omega
    go_enter Try.func213, Try.ntmps213
    go_wp2
    go_region_law (refine step_append_run rfl _ _ 257 257 rfl _ _ (by simp [Act.eval, Act.put]) (by simp [Act.eval, Act.put]) (happ1 _) ?_)
    go_wp2
    go_ret
    exact ⟨rfl, rfl⟩
  · have happ1 := fun ty => happ ty ⟨g, (i + 1) * 2, none⟩ (fun j u hj => by
      rw [Addr.add_lit]; rw [hD] at hj; exact part_cells (o := (i + 1) * 2) (n := (n - (i + 1)) * 2) w.drew hg (by rw [List.size_toArray, hcs]; omega) j u (by simpa using hj))
    clear hW1 hg1 hg hcs hD h1D hDl htl happ hlen hz0 hzs hzb hi0
    go_enter Try.func213, Try.ntmps213
    go_wp2
    go_region_law (refine step_append_run rfl _ _ 257 257 rfl _ _ (by simp [Act.eval, Act.put]) (by simp [Act.eval, Act.put]) (happ1 _) ?_)
    go_wp2
    go_ret
    exact ⟨rfl, rfl⟩

/-- slices.Delete of one element. -/
theorem delI (base : Nat) (v : Value) (es : List (List Value)) (i : Nat) (w : World) (h : RowIs w base 261 2 v es) (hi : i < es.length) (hn : es.length ≤ 1000000) :
    Calls Try.prog 213 #[v, .int .i64 i, .int .i64 (i + 1 : Int)] w fun e w' => ∃ v', e = .returned v' ∧ RowIs w' base 261 2 v' (es.take i ++ es.drop (i + 1)) ∧ w.grownBy w' v.ownBlock ∧ v'.ownBlock = v.ownBlock := by
  rcases h.parts with ⟨rfl, rfl⟩ | ⟨g, cap, cur, rfl, hbg, hg, hnc, hcm, hcs, htake⟩
  · simp at hi
  · have hA := row_ahead h.2 htake (i := i) (by omega)
    have hD := row_behind h.2 htake (i := i + 1) (by omega)
    have hDl := (h.2.drop (i + 1)).len
    rw [List.length_drop] at hDl
    have hcl : cur.toList.length = cap * 2 := by simpa using hcs
    have hg' : w.heap[g]? = some (.cells cur.toList.toArray 261 (0, 0)) := by simpa using hg
    have hlen : (es.take i ++ es.drop (i + 1)).length = es.length - 1 := by simp; omega
    have e1 : i * 2 + (es.drop (i + 1)).flatten.length = (es.length - 1) * 2 := by rw [hDl]; omega
    have hz : (Value.agg #[.int .i64 0, .int .i64 0]).cells.toList.length = 2 := rfl
    unfold maxLen at hcm
    refine (delRoomI g es.length cap i cur.toList _ w hi hn hnc hcm hg' hcl hD (h.2.drop (i + 1)).one).mono ?_
    rintro e w' ⟨rfl, rfl⟩
    refine ⟨_, rfl, ?_, ?_, rfl⟩
    · have h1 : (spl cur.toList (i * 2) (es.drop (i + 1)).flatten).length = cap * 2 := by rw [spl_length, hcl]; rw [e1, hcl]; omega
      refine rowIs_mk hlen hbg (setRow_heap _ g _ _ 261 _ (setRow_heap w.drew g _ _ 261 _ hg')) (by omega) (by unfold maxLen; omega) ?_ ((h.2.take i).append (h.2.drop (i + 1))) ?_
      · rw [spl_length, h1]; rw [hz, h1]; omega
      · rw [spl_take_le (Nat.le_refl _) (by rw [h1]; omega), ← e1, spl_take (by rw [e1, hcl]; omega), List.flatten_append, hA]
    · exact grownBy_trans (grownBy_drew w _) (grownBy_trans (setRow_grown w.drew g _) (setRow_grown _ g _))
end Go.Proofs.Ytpnhklehpilopaa

namespace Go.Proofs.Ytpnhklehpilopaa
open Go Go.RowKit

/-- The same queue with other items in another row. -/
theorem QuI.newRow {W w' : World} {base b n c S : Nat} {p : Option Addr} {l l' : List (Nat × Int)} {T : Nat → Nat} {v' : Value} (h : QuI W base b p c S l T) (hg : W.grownBy w' (Value.slice p n c).ownBlock)
    (hrow : RowIs w' base 261 2 v' (l'.map celI)) (hh : v'.ownBlock = (Value.slice p n c).ownBlock ∨ ∃ r, v'.ownBlock = some r ∧ W.heap.size ≤ r) (hs : l'.length ≤ 1024) :
    ∃ p' c', v' = .slice p' l'.length c' ∧ w'.cell? ⟨b, 2, none⟩ = some (.slice p l.length c) ∧ w'.frozen? ⟨b, 2, none⟩ = false ∧ QuI (w'.setCell ⟨b, 2, none⟩ v') base b p' c' S l' T ∧ Touch b p W (w'.setCell ⟨b, 2, none⟩ v') ∧ Head p p' W.heap.size := by
  have hob : some b ≠ (Value.slice p n c).ownBlock := by
    cases p with
    | none => simp [Value.ownBlock]
    | some a => simp only [Value.ownBlock]; intro e; injection e with e; exact h.apart a rfl e.symm
  have hb' : w'.heap[b]? = some (.cells (hdQ b S (.slice p l.length c) T) 259 (0, 0)) := (hg.block b h.lt hob).trans h.head
  have hvb : v'.ownBlock ≠ some b := by
    rcases hh with e | ⟨r, e, hr⟩
    · rw [e]; exact fun e2 => hob e2.symm
    · rw [e]; intro e2; injection e2 with e2; have := h.lt; omega
  have hrow2 := hrow
  obtain ⟨p', c', rfl⟩ : ∃ p' c', v' = .slice p' l'.length c' := by
    rcases hrow.parts with ⟨h1, h2⟩ | ⟨g, cap, cur, h1, _⟩
    · have : l' = [] := by simpa using h2
      subst this
      exact ⟨none, 0, h1⟩
    · exact ⟨some ⟨g, 0, none⟩, cap, by rw [h1, List.length_map]⟩
  have hset : (w'.setCell ⟨b, 2, none⟩ (.slice p' l'.length c')).heap[b]? = some (.cells (hdQ b S (.slice p' l'.length c') T) 259 (0, 0)) := by
    rw [setCell_eq_setRow w' b 2 _ _ (0, 0) _ hb', hdQ_setV]
    exact setRow_heap w' b _ _ _ _ hb'
  refine ⟨p', c', rfl, by simp [World.cell?, hb', hdQ], by simp [World.frozen?, hb'], ⟨hset, h.low, hrow.kept (row := some b) ⟨rfl, rfl, rfl, by simp [World.setCell], fun k _ hk => Below.heap_setCell _ _ _ _ (fun e => hk (by rw [e]))⟩ (.inr hvb), fun a ha => ?_, h.s1, h.s2, hs⟩, (Touch.of_grown hg).set _ _, fun a' ha' => ?_⟩
  · subst ha; intro e; exact hvb (by simp only [Value.ownBlock]; rw [e])
  · subst ha'
    rcases hh with e | ⟨r, e, hr⟩
    · cases p with
      | none => simp [Value.ownBlock] at e
      | some a => simp only [Value.ownBlock] at e; injection e with e; exact .inl ⟨a, rfl, e.symm⟩
    · simp only [Value.ownBlock] at e; injection e with e; exact .inr (by omega)

set_option maxHeartbeats 1600000 in
set_option maxRecDepth 100000 in
theorem pushI {W : World} {base b : Nat} {p : Option Addr} {S : Nat} {m : Nat → Option Int} (h : PQI W base b p S m) (hbase : base ≤ W.heap.size) {k : Nat} (hk : k < S) (hm : m k = none) (v : Int) :
    Calls Try.prog 142 #[.pointer (some ⟨b, 0, none⟩), .int .i64 (k : Nat), Value.int .i64 v] W fun e w' => e = .returned (.int .i64 0) ∧ ∃ p', PQI w' base b p' S (mSet m k (some v)) ∧ Touch b p W w' ∧ Head p p' W.heap.size := by
  obtain ⟨c, l, T, hQ, hP, hH, hM⟩ := h
  have hT := hM.absent hP hm
  have hck := checkI hQ k hk
  have hfd := findNoI hQ hk hT
  have hP2 := hP.push (x := (k, v)) hk hT
  have hlen := hP2.len
  have hS := hQ.s2
  rw [List.length_append, List.length_singleton] at hlen
  have hp := hQ.heap
  have hA : Below W.heap.size W (W.alloc (.cells #[Value.int .i64 (k : Nat), Value.int .i64 v] 261)) := (Below.refl _ _).alloc (Nat.le_refl _) _
  have hQA := hQ.below hA
  obtain ⟨i0, hi, hz0, hz1, hz2⟩ := info_parts infoEI
  obtain ⟨v', w', hr, hrow, hgrow, hhead⟩ := run_append_elem (P := Try.prog) (W.alloc (.cells #[Value.int .i64 (k : Nat), Value.int .i64 v] 261)) base 2 16 W.heap.size 257 257 261 i0 _ Try.underlying257 hi hz0 hz1 hz2 rfl (.slice p l.length c) (l.map celI) (celI (k, v)) hQA.row (celI_ok _) (heap_alloc_new W _) (by rw [List.length_map]; omega) (by decide) (by simp; omega)
  rw [show l.map celI ++ [celI (k, v)] = (l ++ [(k, v)]).map celI by simp] at hrow
  obtain ⟨p', c', rfl, hc1, hf1, hQ2, hT2, hH2⟩ := hQA.newRow hgrow hrow hhead (by simp; omega)
  have hq2 := hQ2.heap
  have hll : (l ++ [(k, v)]).length = l.length + 1 := by simp
  have hpl2 := hQ2.place (k := k) (by omega)
  have hfr2 := hQ2.frozen (3 + k)
  have hQ3 := hQ2.setT k (l.length + 1)
  have hT3 := hT2.set (3 + k) (.int .i64 ((l.length + 1 : Nat) : Int))
  have hup := upI hQ3 hP2 (hH.push (k, v)).wide (by omega)
  rw [show ((l.length + 1 : Nat) : Int) = (l.length : Int) + 1 by omega] at hup hT3
  rw [hll] at hr hq2 hup
  have HR := Lib.hid hr
  have HUP := Lib.hid hup
  have HW : Hid (∀ w3 l' T', SiftI (((w'.setCell ⟨b, 2, none⟩ (.slice p' (l.length + 1) c')).setCell ⟨b, 3 + k, none⟩ (.int .i64 ((l.length : Int) + 1)))) w3 base b p' c' S (l ++ [(k, v)]) l' T' → HpD (befQ ltI) l' l.length → PQI w3 base b p' S (mSet m k (some v)) ∧ Touch b p W w3) := Lib.hid fun w3 l' T' hs hd => by
    refine ⟨⟨c', l', T', hs.qu, hs.pl, hd.last (by rw [hs.len, hll]; exact Nat.le_refl _), hM.push (x := (k, v)) hm hs.mem⟩, ?_⟩
    refine (Touch.of_below hA).trans ?_
    rw [hll] at hT3
    exact hT3.head hs.tch hH2 (Nat.le_refl _)
  have HH : Hid (Head p p' W.heap.size) := Lib.hid (hH2.mono (by simp))
  have hn1 : ((l.length + 1 : Nat) : Int) - 1 = (l.length : Int) := by omega
  have hn2 : ((l.length : Int) + 1) - 1 = (l.length : Int) := by omega
  have h0 : (0 : Int) ≤ (k : Int) := by omega
  have h1 : (k : Int) < 1024 := by omega
  have hl1 : l.length ≤ 1024 := by omega
  rw [hll] at hpl2 hfr2
  clear hr hup hQ hP hH hM hP2 hA hQA hrow hgrow hhead hQ2 hT2 hH2 hQ3 hT3 hll hm hT hi hz0 hz1 hz2
  generalize l.length = n at *
  go_enter Try.func142, Try.ntmps142
  go_wp2_with fail
  refine hck.mono ?_
  rintro e W1 ⟨rfl, rfl⟩
  go_wp2_with fail
  refine hfd.mono ?_
  rintro e W2 ⟨rfl, rfl⟩
  go_wp2_with (at_builtin; refine wpList_append_run _ rfl _ _ 257 257 rfl _ _ rfl rfl HR.out ?_)
  refine HUP.out.mono ?_
  rintro e w3 ⟨rfl, l', T', hs, hd⟩
  have HX := Lib.hid (HW.out w3 l' T' hs hd)
  clear hs hd hq2 hpl2 hfr2 hc1 hf1
  go_wp2_with fail
  go_ret
  exact ⟨rfl, p', HX.out.1, HX.out.2, HH.out⟩

set_option maxHeartbeats 800000 in
set_option maxRecDepth 100000 in
theorem pushHaveI {W : World} {base b : Nat} {p : Option Addr} {S : Nat} {m : Nat → Option Int} (h : PQI W base b p S m) {k : Nat} {u : Int} (hm : m k = some u) (v : Int) :
    Calls Try.prog 142 #[.pointer (some ⟨b, 0, none⟩), .int .i64 (k : Nat), Value.int .i64 v] W fun e w' => e = .returned (.int .i64 6) ∧ w' = W := by
  obtain ⟨c, l, T, hQ, hP, hH, hM⟩ := h
  obtain ⟨ht, hkS, hx⟩ := hM.get hP hm
  obtain ⟨t, ht'⟩ : ∃ t, T k = t + 1 := ⟨T k - 1, by omega⟩
  rw [ht', Nat.add_sub_cancel] at hx
  have htl : t < l.length := (List.getElem?_eq_some_iff.1 hx).1
  have hsm := hQ.sm
  have hf := findI hQ hkS ht' (by omega)
  have hck := checkI hQ k hkS
  clear hQ hP hH hM hx ht ht' hm
  go_enter Try.func142, Try.ntmps142
  go_wp2_with fail
  refine hck.mono ?_
  rintro e W1 ⟨rfl, rfl⟩
  go_wp2_with fail
  refine hf.mono ?_
  rintro e W2 ⟨rfl, rfl⟩
  go_wp2_with fail
  go_ret
  exact ⟨rfl, rfl⟩

set_option maxHeartbeats 800000 in
set_option maxRecDepth 100000 in
theorem pushBadI {W : World} {base b : Nat} {p : Option Addr} {S : Nat} {m : Nat → Option Int} (h : PQI W base b p S m) {k : Int} (hk : k < 0 ∨ (S : Int) ≤ k) (v : Int) :
    Calls Try.prog 142 #[.pointer (some ⟨b, 0, none⟩), .int .i64 k, Value.int .i64 v] W fun e w' => e = .returned (.int .i64 3) ∧ w' = W := by
  obtain ⟨c, l, T, hQ, hP, hH, hM⟩ := h
  have hck := checkBadI hQ k hk
  clear hQ hP hH hM hk
  go_enter Try.func142, Try.ntmps142
  go_wp2_with fail
  refine hck.mono ?_
  rintro e W1 ⟨rfl, rfl⟩
  go_wp2_with fail
  go_ret
  exact ⟨rfl, rfl⟩
end Go.Proofs.Ytpnhklehpilopaa

namespace Go.Proofs.Ytpnhklehpilopaa
section
variable {α : Type}

theorem mem_set_other {S : Nat} {l : List (Nat × α)} {T : Nat → Nat} (h : Pl S l T) {t k : Nat} {u : α} (hx : l[t]? = some (k, u)) (v : α) (y : Nat × α) : y ∈ l.set t (k, v) ↔ (y ∈ l ∧ y.1 ≠ k) ∨ y = (k, v) := by
  have hl := (List.getElem?_eq_some_iff.1 hx).1
  constructor
  · intro hy
    obtain ⟨i, hi⟩ := List.mem_iff_getElem?.1 hy
    by_cases e : t = i
    · subst e; rw [List.getElem?_set_self hl] at hi; cases hi; exact .inr rfl
    · rw [List.getElem?_set_ne e] at hi
      exact .inl ⟨List.mem_of_getElem? hi, fun e2 => e (h.inj hx hi (by simpa using e2.symm))⟩
  · rintro (⟨hy, hne⟩ | rfl)
    · obtain ⟨i, hi⟩ := List.mem_iff_getElem?.1 hy
      have : t ≠ i := fun e => by subst e; rw [hx] at hi; cases hi; exact hne rfl
      exact List.mem_of_getElem? (i := i) (by rw [List.getElem?_set_ne this]; exact hi)
    · exact List.mem_of_getElem? (i := t) (List.getElem?_set_self hl)

theorem mem_take_last {S : Nat} {l : List (Nat × α)} {T : Nat → Nat} (h : Pl S l T) {x : Nat × α} (hx : l[l.length - 1]? = some x) (y : Nat × α) : y ∈ l.take (l.length - 1) ↔ y ∈ l ∧ y.1 ≠ x.1 := by
  have hl := (List.getElem?_eq_some_iff.1 hx).1
  constructor
  · intro hy
    obtain ⟨i, hi⟩ := List.mem_iff_getElem?.1 hy
    rw [List.getElem?_take] at hi
    split at hi
    · exact ⟨List.mem_of_getElem? hi, fun e => by have := h.inj hi hx e; omega⟩
    · cases hi
  · rintro ⟨hy, hne⟩
    obtain ⟨i, hi⟩ := List.mem_iff_getElem?.1 hy
    have h2 := (List.getElem?_eq_some_iff.1 hi).1
    have : i ≠ l.length - 1 := fun e => by subst e; rw [hx] at hi; cases hi; exact hne rfl
    exact List.mem_of_getElem? (i := i) (by rw [List.getElem?_take, if_pos (by omega)]; exact hi)

theorem swp_take_last {ι : Type} {l : List ι} {t : Nat} {x y : ι} (hx : l[t]? = some x) (hy : l[l.length - 1]? = some y) : (swp l t (l.length - 1)).take (l.length - 1) = (l.set t y).take (l.length - 1) := by
  have h1 := (List.getElem?_eq_some_iff.1 hx).1
  apply List.ext_getElem?
  intro i
  rw [List.getElem?_take, List.getElem?_take]
  split
  · rw [swp_at hx hy, if_neg (by omega)]
    by_cases e : i = t
    · subst e; rw [if_pos rfl, List.getElem?_set_self h1]
    · rw [if_neg e, List.getElem?_set_ne (fun h => e h.symm)]
  · rfl

/-- The end taken away behind an exchange: a heap, but for the item that came from the end. -/
theorem Hp.drop {ι : Type} {lt : ι → ι → Bool} (O : KOrd lt) {l : List ι} (h : Hp lt l) {t : Nat} {x y : ι} (hx : l[t]? = some x) (hy : l[l.length - 1]? = some y) : HpW lt ((swp l t (l.length - 1)).take (l.length - 1)) t := by
  rw [swp_take_last hx hy]
  exact (h.other O t y).cut _
end
end Go.Proofs.Ytpnhklehpilopaa

namespace Go.Proofs.Ytpnhklehpilopaa
open Go Go.RowKit

/-- The priority of an item written over. -/
theorem QuI.setPrio {W : World} {base b c S g r : Nat} {p : Option Addr} {l : List (Nat × Int)} {T : Nat → Nat} (h : QuI W base b p c S l T) (hp : p = some ⟨g, 0, none⟩) {k : Nat} {u : Int} (v : Int) (hx : l[r]? = some (k, u)) :
    QuI (W.setCell ⟨g, r * 2 + 1, none⟩ (Value.int .i64 v)) base b p c S (l.set r (k, v)) T := by
  subst hp
  have hne : b ≠ g := fun e => h.apart _ rfl e.symm
  have hr : r < l.length := (List.getElem?_eq_some_iff.1 hx).1
  have hm : (l.map celI)[r]? = some [Value.int .i64 (k : Nat), Value.int .i64 u] := by simp [hx, celI]
  have he : (l.set r (k, v)).map celI = (l.map celI).set r [Value.int .i64 (k : Nat), Value.int .i64 v] := by rw [List.map_set]; rfl
  obtain ⟨g', cur, e1, h2, h4, h5, h3, h6, h7⟩ := h.items hx
  injection e1 with e1
  injection e1 with e1
  subst e1
  refine ⟨?_, h.low, ?_, h.apart, h.s1, h.s2, by simpa using h.sm⟩
  · rw [Below.heap_setCell _ _ _ _ hne, List.length_set]; exact h.head
  · rw [setCell_eq_setRow W g (r * 2 + 1) cur 261 (0, 0) _ h3, List.length_set, he]
    refine rowIs_mk (cur := (cur.setIfInBounds (r * 2 + 1) (Value.int .i64 v)).toList) (by simp) h2 (by rw [Array.toArray_toList]; exact setRow_heap W g cur _ 261 _ h3) h4 h5 (by simpa using h6) ?_ ?_
    · intro e hel
      rcases List.mem_or_eq_of_mem_set hel with h8 | rfl
      · exact h.row.2 e h8
      · exact celI_ok (k, v)
    · rw [Array.toList_setIfInBounds, List.take_set, h7, flat_set h.row.2 hm]

set_option maxHeartbeats 1600000 in
set_option maxRecDepth 100000 in
theorem changeI {W : World} {base b : Nat} {p : Option Addr} {S : Nat} {m : Nat → Option Int} (h : PQI W base b p S m) {k : Nat} {u : Int} (hm : m k = some u) (v : Int) :
    Calls Try.prog 144 #[.pointer (some ⟨b, 0, none⟩), .int .i64 (k : Nat), Value.int .i64 v] W fun e w' => e = .returned (.int .i64 0) ∧ PQI w' base b p S (mSet m k (some v)) ∧ Touch b p W w' := by
  obtain ⟨c, l, T, hQ, hP, hH, hM⟩ := h
  obtain ⟨ht, hkS, hx⟩ := hM.get hP hm
  obtain ⟨t, ht'⟩ : ∃ t, T k = t + 1 := ⟨T k - 1, by omega⟩
  rw [ht', Nat.add_sub_cancel] at hx
  have htl : t < l.length := (List.getElem?_eq_some_iff.1 hx).1
  have hsm := hQ.sm
  have hfd := findI hQ hkS ht' (by omega)
  have hck := checkI hQ k hkS
  obtain ⟨g, hpg, hc, _, hv⟩ := hQ.at hx
  have hp := hQ.heap
  have hfz : W.frozen? ⟨g, t * 2 + 1, none⟩ = false := by
    obtain ⟨g2, cur, e1, _, _, _, h3, _, _⟩ := hQ.items hx
    rw [hpg] at e1
    injection e1 with e1
    injection e1 with e1
    subst e1
    exact row_frozen h3 _
  have hst := settleI (hQ.setPrio hpg v hx) (hP.other hx v) (hH.other (befQ_ord ordI) t (k, v)) (by simpa using htl)
  have HT : Hid (Touch b p W (W.setCell ⟨g, t * 2 + 1, none⟩ (Value.int .i64 v))) := Lib.hid ((Touch.of_below (Below.refl _ _)).rowAt hpg _ _)
  have HM : Hid (∀ w3 l' T', SiftI (W.setCell ⟨g, t * 2 + 1, none⟩ (Value.int .i64 v)) w3 base b p c S (l.set t (k, v)) l' T' → Hp (befQ ltI) l' → PQI w3 base b p S (mSet m k (some v)) ∧ Touch b p W w3) := Lib.hid fun w3 l' T' hs hh =>
    ⟨⟨c, l', T', hs.qu, hs.pl, hh, hM.change fun y => (hs.mem y).trans (mem_set_other hP hx v y)⟩, HT.out.trans hs.tch⟩
  have HST := Lib.hid hst
  have h0 : (0 : Int) ≤ (t : Int) := by omega
  have h1 : (t : Int) < (l.length : Int) := by omega
  subst hpg
  clear hst hQ hP hH hM hx ht ht' hm
  generalize l.length = n at *
  go_enter Try.func144, Try.ntmps144
  go_wp2_with fail
  refine hck.mono ?_
  rintro e W1 ⟨rfl, rfl⟩
  go_wp2_with fail
  refine hfd.mono ?_
  rintro e W2 ⟨rfl, rfl⟩
  go_wp2_with fail
  refine HST.out.mono ?_
  rintro e w3 ⟨rfl, l', T', hs, hd⟩
  have HX := Lib.hid (HM.out w3 l' T' hs hd)
  clear hs hd hp hv hfz
  go_wp2_with fail
  go_ret
  exact ⟨rfl, HX.out.1, HX.out.2⟩

set_option maxHeartbeats 800000 in
set_option maxRecDepth 100000 in
theorem changeNoI {W : World} {base b : Nat} {p : Option Addr} {S : Nat} {m : Nat → Option Int} (h : PQI W base b p S m) {k : Nat} (hk : k < S) (hm : m k = none) (v : Int) :
    Calls Try.prog 144 #[.pointer (some ⟨b, 0, none⟩), .int .i64 (k : Nat), Value.int .i64 v] W fun e w' => e = .returned (.int .i64 5) ∧ w' = W := by
  obtain ⟨c, l, T, hQ, hP, hH, hM⟩ := h
  have hfd := findNoI hQ hk (hM.absent hP hm)
  have hck := checkI hQ k hk
  clear hQ hP hH hM hm
  go_enter Try.func144, Try.ntmps144
  go_wp2_with fail
  refine hck.mono ?_
  rintro e W1 ⟨rfl, rfl⟩
  go_wp2_with fail
  refine hfd.mono ?_
  rintro e W2 ⟨rfl, rfl⟩
  go_wp2_with fail
  go_ret
  exact ⟨rfl, rfl⟩

set_option maxHeartbeats 800000 in
set_option maxRecDepth 100000 in
theorem changeBadI {W : World} {base b : Nat} {p : Option Addr} {S : Nat} {m : Nat → Option Int} (h : PQI W base b p S m) {k : Int} (hk : k < 0 ∨ (S : Int) ≤ k) (v : Int) :
    Calls Try.prog 144 #[.pointer (some ⟨b, 0, none⟩), .int .i64 k, Value.int .i64 v] W fun e w' => e = .returned (.int .i64 3) ∧ w' = W := by
  obtain ⟨c, l, T, hQ, hP, hH, hM⟩ := h
  have hck := checkBadI hQ k hk
  clear hQ hP hH hM hk
  go_enter Try.func144, Try.ntmps144
  go_wp2_with fail
  refine hck.mono ?_
  rintro e W1 ⟨rfl, rfl⟩
  go_wp2_with fail
  go_ret
  exact ⟨rfl, rfl⟩
end Go.Proofs.Ytpnhklehpilopaa

namespace Go.Proofs.Ytpnhklehpilopaa
open Go Go.RowKit

set_option maxHeartbeats 1600000 in
set_option maxRecDepth 100000 in
theorem removeI {W : World} {base b : Nat} {p : Option Addr} {S : Nat} {m : Nat → Option Int} (h : PQI W base b p S m) {k : Nat} {v : Int} (hm : m k = some v) :
    Calls Try.prog 145 #[.pointer (some ⟨b, 0, none⟩), .int .i64 (k : Nat)] W fun e w' => e = .returned (.tuple #[Value.int .i64 v, .bool true]) ∧ PQI w' base b p S (mSet m k none) ∧ Touch b p W w' := by
  have hpr := priorityI h hm
  obtain ⟨c, l, T, hQ, hP, hH, hM⟩ := h
  obtain ⟨ht, hkS, hx⟩ := hM.get hP hm
  obtain ⟨t, ht'⟩ : ∃ t, T k = t + 1 := ⟨T k - 1, by omega⟩
  rw [ht', Nat.add_sub_cancel] at hx
  have htl : t < l.length := (List.getElem?_eq_some_iff.1 hx).1
  have hsm := hQ.sm
  have hS2 := hQ.s2
  have hfd := findI hQ hkS ht' (by omega)
  obtain ⟨y, hy⟩ : ∃ y, l[l.length - 1]? = some y := ⟨_, List.getElem?_eq_getElem (by omega)⟩
  have hp := hQ.heap
  have hsw := swapI hQ hx hy (by show k < 1024; omega) (by have := (hP.fwd _ _ hy).1; omega)
  have hP1 := hP.swap hx hy
  have hl1 : (swp l t (l.length - 1))[(swp l t (l.length - 1)).length - 1]? = some (k, v) := by rw [swp_len, swp_at hx hy, if_pos rfl]
  have hP2 := hP1.pop hl1
  rw [swp_len] at hP2
  have hW2 := hH.drop (befQ_ord ordI) hx hy
  have hM2 : QM ((swp l t (l.length - 1)).take (l.length - 1)) (mSet m k none) := hM.pop fun z => by
    have := mem_take_last hP1 hl1 z
    rw [swp_len, swp_mem] at this
    exact this
  have hself : t = l.length - 1 → (swp l t (l.length - 1)).take (l.length - 1) = l.take (l.length - 1) := fun e => by
    rw [← e, swp_self hx]
  have hH2 : t = l.length - 1 → Hp (befQ ltI) ((swp l t (l.length - 1)).take (l.length - 1)) := fun e => by rw [hself e]; exact hH.cut _
  have hlen2 : ((swp l t (l.length - 1)).take (l.length - 1)).length = l.length - 1 := by rw [List.length_take, swp_len]; omega
  have hes : ((swp l t (l.length - 1)).map celI).take (l.length - 1) ++ ((swp l t (l.length - 1)).map celI).drop (l.length - 1 + 1) = ((swp l t (l.length - 1)).take (l.length - 1)).map celI := by
    rw [List.drop_eq_nil_of_le (by rw [List.length_map, swp_len]; omega), List.append_nil, List.map_take]
  have hll := swp_len l t (l.length - 1)
  obtain ⟨j, hj⟩ : ∃ j, l.length = j + 1 := ⟨l.length - 1, by omega⟩
  rw [hj, Nat.add_sub_cancel] at hsw hP2 hW2 hM2 hH2 hlen2 hes hll
  rw [hj] at hp htl hsm
  have HSW := Lib.hid hsw
  have HP2 := Lib.hid hP2
  have HW2 := Lib.hid hW2
  have HM2 := Lib.hid hM2
  have HH2 := Lib.hid hH2
  have HES := Lib.hid (And.intro hes (And.intro hll hlen2))
  clear hsw hP2 hW2 hM2 hH2 hes hll hlen2 hQ hP hH hM hx hy hP1 hl1 hself ht ht' hj hm
  go_enter Try.func145, Try.ntmps145
  go_wp2_with fail
  refine hpr.mono ?_
  rintro e W1 ⟨rfl, rfl⟩
  go_wp2_with fail
  refine hfd.mono ?_
  rintro e W2 ⟨rfl, rfl⟩
  go_wp2_with fail
  refine HSW.out.mono ?_
  rintro e w2 ⟨rfl, hQ2, hT2⟩
  have hp2 := hQ2.heap
  rw [HES.out.2.1] at hp2
  have hrow := hQ2.row
  rw [HES.out.2.1] at hrow
  have hdel := delI base (.slice p (j + 1) c) ((swp l t j).map celI) j w2 hrow (by rw [List.length_map, HES.out.2.1]; omega) (by rw [List.length_map, HES.out.2.1]; omega)
  rw [HES.out.1] at hdel
  have HQ2 := Lib.hid hQ2
  have HT2 := Lib.hid hT2
  clear hQ2 hT2 hrow
  go_wp2_with fail
  refine hdel.mono ?_
  rintro e w3 ⟨v', rfl, hr3, hg3, hh3⟩
  obtain ⟨p', c', rfl, hc1, hf1, hQ4, hT4, hH4⟩ := HQ2.out.newRow (n := j + 1) (l' := (swp l t j).take j) hg3 hr3 (.inl hh3) (by rw [HES.out.2.2]; omega)
  obtain rfl : p = p' := by
    symm
    have hpq := HQ2.out.row.parts
    have hpr := hQ4.row.parts
    rw [List.length_map] at hpq
    simp only [Value.ownBlock] at hh3
    rcases hpr with ⟨h1, _⟩ | ⟨g1, c1, _, h1, _⟩
    · injection h1 with h1
      subst h1
      rcases hpq with ⟨h2, _⟩ | ⟨g2, c2, _, h2, _⟩
      · injection h2 with h2; exact h2.symm
      · injection h2 with h2; subst h2; simp at hh3
    · injection h1 with h1
      subst h1
      rcases hpq with ⟨h2, _⟩ | ⟨g2, c2, _, h2, _⟩
      · injection h2 with h2; subst h2; simp at hh3
      · injection h2 with h2; subst h2; simp at hh3; rw [hh3]
  have hpl := hQ4.place (k := k) (by omega)
  have hfr := hQ4.frozen (3 + k)
  have hQ5 := hQ4.setT k 0
  have hT5 := (HT2.out.trans hT4).set (3 + k) (.int .i64 ((0 : Nat) : Int))
  rw [show ((0 : Nat) : Int) = 0 from rfl] at hQ5 hT5
  have HQ5 := Lib.hid hQ5
  have HT5 := Lib.hid hT5
  have h0 : (0 : Int) ≤ (k : Int) := by omega
  have h1 : (k : Int) < 1024 := by omega
  have hk2 := HES.out.2.2
  rw [hk2] at hpl hfr
  have HK2 := Lib.hid hk2
  clear hr3 hg3 hh3 hQ4 hT4 hH4 hQ5 hT5 hdel hp2 hp hk2
  by_cases htj : t < j
  · have hst := settleI HQ5.out HP2.out HW2.out (by rw [HK2.out]; exact htj)
    rw [HK2.out] at hst
    have HST := Lib.hid hst
    have HM3 : Hid (∀ w6 l' T', SiftI ((w3.setCell ⟨b, 2, none⟩ (.slice p j c')).setCell ⟨b, 3 + k, none⟩ (.int .i64 0)) w6 base b p c' S ((swp l t j).take j) l' T' → Hp (befQ ltI) l' → PQI w6 base b p S (mSet m k none) ∧ Touch b p W2 w6) := Lib.hid fun w6 l' T' hs hh =>
      ⟨⟨c', l', T', hs.qu, hs.pl, hh, fun x => (hs.mem x).trans (HM2.out x)⟩, by
        have := HT5.out
        rw [HK2.out] at this
        exact this.trans hs.tch⟩
    have hd : decide ((t : Int) < (j : Int)) = true := by simpa using htj
    clear hst
    rw [HK2.out] at *
    go_wp2_with fail
    refine HST.out.mono ?_
    rintro e w6 ⟨rfl, l', T', hs, hh⟩
    have HX := Lib.hid (HM3.out w6 l' T' hs hh)
    clear hs hh hpl hfr hc1 hf1
    go_wp2_with fail
    go_ret2
    exact ⟨rfl, HX.out.1, HX.out.2⟩
  · have HX : Hid (PQI ((w3.setCell ⟨b, 2, none⟩ (.slice p j c')).setCell ⟨b, 3 + k, none⟩ (.int .i64 0)) base b p S (mSet m k none) ∧ Touch b p W2 ((w3.setCell ⟨b, 2, none⟩ (.slice p j c')).setCell ⟨b, 3 + k, none⟩ (.int .i64 0))) := Lib.hid (by
      have h5 := HQ5.out
      have h6 := HT5.out
      have h7 := HK2.out
      rw [h7] at h6
      refine ⟨⟨c', (swp l t j).take j, _, ?_, HP2.out, HH2.out (by omega), HM2.out⟩, h6⟩
      rw [h7] at h5
      exact h5)
    have hd : decide ((t : Int) < (j : Int)) = false := by simp; omega
    rw [HK2.out] at *
    go_wp2_with fail
    go_ret2
    exact ⟨rfl, HX.out.1, HX.out.2⟩

set_option maxHeartbeats 800000 in
set_option maxRecDepth 100000 in
theorem removeNoI {W : World} {base b : Nat} {p : Option Addr} {S : Nat} {m : Nat → Option Int} (h : PQI W base b p S m) (k : Int) (hk : 0 ≤ k → m k.toNat = none) :
    Calls Try.prog 145 #[.pointer (some ⟨b, 0, none⟩), .int .i64 k] W fun e w' => e = .returned (.tuple #[.int .i64 0, .bool false]) ∧ w' = W := by
  have hpr := priorityNoI h k hk
  obtain ⟨c, l, T, hQ, hP, hH, hM⟩ := h
  have hf : Calls Try.prog 208 #[.pointer (some ⟨b, 0, none⟩), .int .i64 k] W fun e w' => e = .returned (.tuple #[.int .i64 0, .bool false]) ∧ w' = W := by
    by_cases hr : k < 0 ∨ (S : Int) ≤ k
    · exact findBadI hQ hr
    · obtain ⟨k', rfl⟩ : ∃ k' : Nat, k = k' := ⟨k.toNat, by omega⟩
      exact findNoI hQ (by omega) (hM.absent hP (by simpa using hk (by omega)))
  clear hQ hP hH hM hk
  go_enter Try.func145, Try.ntmps145
  go_wp2_with fail
  refine hpr.mono ?_
  rintro e W1 ⟨rfl, rfl⟩
  go_wp2_with fail
  refine hf.mono ?_
  rintro e W2 ⟨rfl, rfl⟩
  go_wp2_with fail
  go_ret2
  exact ⟨rfl, rfl⟩

set_option maxHeartbeats 800000 in
set_option maxRecDepth 100000 in
theorem popI {W : World} {base b : Nat} {p : Option Addr} {S : Nat} {m : Nat → Option Int} (h : PQI W base b p S m) {x : Nat × Int} (hx : FstI m x) :
    Calls Try.prog 146 #[.pointer (some ⟨b, 0, none⟩)] W fun e w' => e = .returned (.tuple #[.int .i64 (x.1 : Nat), Value.int .i64 x.2, .bool true]) ∧ PQI w' base b p S (mSet m x.1 none) ∧ Touch b p W w' := by
  have hpk := peekI h hx
  have HRM : Hid (∀ w', Below W.heap.size W w' → Calls Try.prog 145 #[.pointer (some ⟨b, 0, none⟩), .int .i64 (x.1 : Nat)] w' fun e w' => e = .returned (.tuple #[Value.int .i64 x.2, .bool true]) ∧ PQI w' base b p S (mSet m x.1 none) ∧ Touch b p W w') := Lib.hid fun w' hb => by
    refine (removeI (h.below hb) hx.1).mono ?_
    rintro e w2 ⟨he, h1, h2⟩
    exact ⟨he, h1, (Touch.of_below hb).trans h2⟩
  clear h hx
  obtain ⟨xi, xp⟩ := x
  go_enter Try.func146, Try.ntmps146
  go_wp2_with fail
  refine hpk.mono ?_
  rintro e w1 ⟨rfl, hb⟩
  go_wp2_with fail
  refine (HRM.out w1 hb).mono ?_
  rintro e w2 ⟨rfl, h1, h2⟩
  have HX := Lib.hid (And.intro h1 h2)
  clear h1 h2 hpk
  go_wp2_with fail
  go_ret3
  exact ⟨rfl, HX.out⟩

set_option maxHeartbeats 800000 in
set_option maxRecDepth 100000 in
theorem popNoI {W : World} {base b : Nat} {p : Option Addr} {S : Nat} {m : Nat → Option Int} (h : PQI W base b p S m) (hx : ∀ k, m k = none) :
    Calls Try.prog 146 #[.pointer (some ⟨b, 0, none⟩)] W fun e w' => e = .returned (.tuple #[.int .i64 0, .int .i64 0, .bool false]) ∧ Below W.heap.size W w' := by
  have hpk := peekNoI h hx
  clear h hx
  go_enter Try.func146, Try.ntmps146
  go_wp2_with fail
  refine hpk.mono ?_
  rintro e w1 ⟨rfl, hb⟩
  go_wp2_with fail
  go_ret3
  exact ⟨rfl, hb⟩
end Go.Proofs.Ytpnhklehpilopaa

namespace Go.Proofs.Ytpnhklehpilopaa
open Go Go.RowKit

structure Chg (N b : Nat) (A B : World) : Prop where
  os : B.os = A.os
  tape : B.tape = A.tape
  output : B.output = A.output
  size : A.heap.size ≤ B.heap.size
  block : ∀ k, k < N → k ≠ b → B.heap[k]? = A.heap[k]?

theorem Chg.refl (N b : Nat) (A : World) : Chg N b A A := ⟨rfl, rfl, rfl, Nat.le_refl _, fun _ _ _ => rfl⟩
theorem Chg.trans {N b : Nat} {A B C : World} (h : Chg N b A B) (k : Chg N b B C) : Chg N b A C :=
  ⟨k.os.trans h.os, k.tape.trans h.tape, k.output.trans h.output, Nat.le_trans h.size k.size, fun i h1 h2 => (k.block i h1 h2).trans (h.block i h1 h2)⟩
theorem Chg.of_below {N b : Nat} {A B : World} (h : Below N A B) : Chg N b A B := ⟨h.os, h.tape, h.output, h.size, fun k hk _ => h.block k hk⟩
theorem Chg.below {N b : Nat} {A B : World} (h : Chg N b A B) : Below (min b N) A B := ⟨h.os, h.tape, h.output, h.size, fun k hk => h.block k (by omega) (by omega)⟩
theorem Touch.chg {N b : Nat} {p : Option Addr} {A B : World} (h : Touch b p A B) (hN : N ≤ A.heap.size) (hp : ∀ a, p = some a → N ≤ a.block) : Chg N b A B :=
  ⟨h.os, h.tape, h.output, h.size, fun k hk h1 => h.block k (by omega) h1 (fun a ha => by have := hp a ha; omega)⟩
theorem Head.low {p p' : Option Addr} {M N : Nat} (h : Head p p' M) (hN : N ≤ M) (hp : ∀ a, p = some a → N ≤ a.block) : ∀ a, p' = some a → N ≤ a.block := fun a ha => by
  rcases h a ha with ⟨a0, h1, h2⟩ | h1
  · have := hp a0 h1; omega
  · omega
end Go.Proofs.Ytpnhklehpilopaa

namespace Go.Proofs.Ytpnhklehpilopaa
open Go Go.RowKit

def QHI (W : World) (N b S : Nat) (m : Nat → Option Int) : Prop := b < N ∧ N ≤ W.heap.size ∧ ∃ p, PQI W 0 b p S m ∧ ∀ a, p = some a → N ≤ a.block

section
variable {W : World} {N b S : Nat} {m : Nat → Option Int}

theorem QHI.below {W' : World} (h : QHI W N b S m) (hb : Below W.heap.size W W') : QHI W' N b S m := by
  obtain ⟨h1, h2, p, h3, h4⟩ := h
  exact ⟨h1, Nat.le_trans h2 hb.size, p, h3.below hb, h4⟩

/-- What leaves b and all from N on alone leaves the queue alone. -/
theorem QHI.other {W' : World} (h : QHI W N b S m) (hs : W.heap.size ≤ W'.heap.size) (hk : ∀ k, k < W.heap.size → k = b ∨ N ≤ k → W'.heap[k]? = W.heap[k]?) : QHI W' N b S m := by
  obtain ⟨h1, h2, p, h3, h4⟩ := h
  exact ⟨h1, Nat.le_trans h2 hs, p, h3.same hs (hk b h3.lt (.inl rfl)) (fun a ha => hk _ (h3.own ha).2.1 (.inr (h4 a ha))), h4⟩

theorem QHI.size (h : QHI W N b S m) : 1 ≤ S ∧ S ≤ 1024 := by
  obtain ⟨h1, h2, p, h3, h4⟩ := h
  exact h3.size
theorem QHI.cnt (h : QHI W N b S m) : cntQ S m ≤ 1024 := by
  obtain ⟨h1, h2, p, h3, h4⟩ := h
  exact h3.cnt
theorem QHI.low (h : QHI W N b S m) {k : Nat} (hk : S ≤ k) : m k = none := by
  obtain ⟨h1, h2, p, h3, h4⟩ := h
  exact h3.low hk
theorem QHI.fst (h : QHI W N b S m) : (∃ x, FstI m x) ∨ ∀ k, m k = none := by
  obtain ⟨h1, h2, p, h3, h4⟩ := h
  exact h3.fst

theorem newHI (S : Nat) (h1 : 1 ≤ S) (h2 : S ≤ 1024) (W : World) : Calls Try.prog 141 #[.int .i64 (S : Nat)] W fun e w' => e = .returned (.tuple #[.pointer (some ⟨W.heap.size, 0, none⟩), .int .i64 0]) ∧ PQI w' 0 W.heap.size none S (fun _ => none) ∧ Below W.heap.size W w' ∧ w'.heap.size = W.heap.size + 1 := newI S h1 h2 W

theorem pushHI (h : QHI W N b S m) {k : Nat} (hk : k < S) (hm : m k = none) (v : Int) :
    Calls Try.prog 142 #[.pointer (some ⟨b, 0, none⟩), .int .i64 (k : Nat), Value.int .i64 v] W fun e w' => e = .returned (.int .i64 0) ∧ QHI w' N b S (mSet m k (some v)) ∧ Chg N b W w' := by
  obtain ⟨h1, h2, p, h3, h4⟩ := h
  refine (pushI h3 (Nat.zero_le _) hk hm v).mono ?_
  rintro e w' ⟨he, p', h5, h6, h7⟩
  exact ⟨he, ⟨h1, Nat.le_trans h2 h6.size, p', h5, h7.low h2 h4⟩, h6.chg h2 h4⟩
theorem pushHaveHI (h : QHI W N b S m) {k : Nat} {u : Int} (hm : m k = some u) (v : Int) :
    Calls Try.prog 142 #[.pointer (some ⟨b, 0, none⟩), .int .i64 (k : Nat), Value.int .i64 v] W fun e w' => e = .returned (.int .i64 6) ∧ w' = W := by
  obtain ⟨h1, h2, p, h3, h4⟩ := h
  exact pushHaveI h3 hm v
theorem pushBadHI (h : QHI W N b S m) {k : Int} (hk : k < 0 ∨ (S : Int) ≤ k) (v : Int) :
    Calls Try.prog 142 #[.pointer (some ⟨b, 0, none⟩), .int .i64 k, Value.int .i64 v] W fun e w' => e = .returned (.int .i64 3) ∧ w' = W := by
  obtain ⟨h1, h2, p, h3, h4⟩ := h
  exact pushBadI h3 hk v
theorem changeHI (h : QHI W N b S m) {k : Nat} {u : Int} (hm : m k = some u) (v : Int) :
    Calls Try.prog 144 #[.pointer (some ⟨b, 0, none⟩), .int .i64 (k : Nat), Value.int .i64 v] W fun e w' => e = .returned (.int .i64 0) ∧ QHI w' N b S (mSet m k (some v)) ∧ Chg N b W w' := by
  obtain ⟨h1, h2, p, h3, h4⟩ := h
  refine (changeI h3 hm v).mono ?_
  rintro e w' ⟨he, h5, h6⟩
  exact ⟨he, ⟨h1, Nat.le_trans h2 h6.size, p, h5, h4⟩, h6.chg h2 h4⟩
theorem changeNoHI (h : QHI W N b S m) {k : Nat} (hk : k < S) (hm : m k = none) (v : Int) :
    Calls Try.prog 144 #[.pointer (some ⟨b, 0, none⟩), .int .i64 (k : Nat), Value.int .i64 v] W fun e w' => e = .returned (.int .i64 5) ∧ w' = W := by
  obtain ⟨h1, h2, p, h3, h4⟩ := h
  exact changeNoI h3 hk hm v
theorem changeBadHI (h : QHI W N b S m) {k : Int} (hk : k < 0 ∨ (S : Int) ≤ k) (v : Int) :
    Calls Try.prog 144 #[.pointer (some ⟨b, 0, none⟩), .int .i64 k, Value.int .i64 v] W fun e w' => e = .returned (.int .i64 3) ∧ w' = W := by
  obtain ⟨h1, h2, p, h3, h4⟩ := h
  exact changeBadI h3 hk v
theorem removeHI (h : QHI W N b S m) {k : Nat} {v : Int} (hm : m k = some v) :
    Calls Try.prog 145 #[.pointer (some ⟨b, 0, none⟩), .int .i64 (k : Nat)] W fun e w' => e = .returned (.tuple #[Value.int .i64 v, .bool true]) ∧ QHI w' N b S (mSet m k none) ∧ Chg N b W w' := by
  obtain ⟨h1, h2, p, h3, h4⟩ := h
  refine (removeI h3 hm).mono ?_
  rintro e w' ⟨he, h5, h6⟩
  exact ⟨he, ⟨h1, Nat.le_trans h2 h6.size, p, h5, h4⟩, h6.chg h2 h4⟩
theorem removeNoHI (h : QHI W N b S m) (k : Int) (hk : 0 ≤ k → m k.toNat = none) :
    Calls Try.prog 145 #[.pointer (some ⟨b, 0, none⟩), .int .i64 k] W fun e w' => e = .returned (.tuple #[.int .i64 0, .bool false]) ∧ w' = W := by
  obtain ⟨h1, h2, p, h3, h4⟩ := h
  exact removeNoI h3 k hk
theorem popHI (h : QHI W N b S m) {x : Nat × Int} (hx : FstI m x) :
    Calls Try.prog 146 #[.pointer (some ⟨b, 0, none⟩)] W fun e w' => e = .returned (.tuple #[.int .i64 (x.1 : Nat), Value.int .i64 x.2, .bool true]) ∧ QHI w' N b S (mSet m x.1 none) ∧ Chg N b W w' := by
  obtain ⟨h1, h2, p, h3, h4⟩ := h
  refine (popI h3 hx).mono ?_
  rintro e w' ⟨he, h5, h6⟩
  exact ⟨he, ⟨h1, Nat.le_trans h2 h6.size, p, h5, h4⟩, h6.chg h2 h4⟩
theorem popNoHI (h : QHI W N b S m) (hx : ∀ k, m k = none) :
    Calls Try.prog 146 #[.pointer (some ⟨b, 0, none⟩)] W fun e w' => e = .returned (.tuple #[.int .i64 0, .int .i64 0, .bool false]) ∧ Below W.heap.size W w' := by
  obtain ⟨h1, h2, p, h3, h4⟩ := h
  exact popNoI h3 hx
theorem peekHI (h : QHI W N b S m) {x : Nat × Int} (hx : FstI m x) :
    Calls Try.prog 143 #[.pointer (some ⟨b, 0, none⟩)] W fun e w' => e = .returned (.tuple #[.int .i64 (x.1 : Nat), Value.int .i64 x.2, .bool true]) ∧ Below W.heap.size W w' := by
  obtain ⟨h1, h2, p, h3, h4⟩ := h
  exact peekI h3 hx
theorem peekNoHI (h : QHI W N b S m) (hx : ∀ k, m k = none) :
    Calls Try.prog 143 #[.pointer (some ⟨b, 0, none⟩)] W fun e w' => e = .returned (.tuple #[.int .i64 0, .int .i64 0, .bool false]) ∧ Below W.heap.size W w' := by
  obtain ⟨h1, h2, p, h3, h4⟩ := h
  exact peekNoI h3 hx
theorem priorityHI (h : QHI W N b S m) {k : Nat} {v : Int} (hm : m k = some v) :
    Calls Try.prog 211 #[.pointer (some ⟨b, 0, none⟩), .int .i64 (k : Nat)] W fun e w' => e = .returned (.tuple #[Value.int .i64 v, .bool true]) ∧ w' = W := by
  obtain ⟨h1, h2, p, h3, h4⟩ := h
  exact priorityI h3 hm
theorem priorityNoHI (h : QHI W N b S m) (k : Int) (hk : 0 ≤ k → m k.toNat = none) :
    Calls Try.prog 211 #[.pointer (some ⟨b, 0, none⟩), .int .i64 k] W fun e w' => e = .returned (.tuple #[.int .i64 0, .bool false]) ∧ w' = W := by
  obtain ⟨h1, h2, p, h3, h4⟩ := h
  exact priorityNoI h3 k hk
theorem lenHI (h : QHI W N b S m) :
    Calls Try.prog 147 #[.pointer (some ⟨b, 0, none⟩)] W fun e w' => e = .returned (.int .i64 (cntQ S m : Nat)) ∧ w' = W := by
  obtain ⟨h1, h2, p, h3, h4⟩ := h
  exact lenI h3
end
end Go.Proofs.Ytpnhklehpilopaa
