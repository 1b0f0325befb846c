/- slices.Insert at the pairs of an ordered map, one element: a row of its own again. -/
import Derived.Test.YtpnhklehpilopaaOmMem
import Derived.Test.YtpnhklehpilopaaProg
import Derived.Lib.Overlaps
import Derived.Laws.Externs
import Derived.Lib.Hide
namespace Go.Proofs.Ytpnhklehpilopaa
open Go Go.RowKit

theorem infoED : (Try.prog.info? 195).map (fun i => (i.zero, i.size, i.bytes)) = some (some (.agg #[.int .u8 0, .int .i64 0, .string ⟨#[]⟩]), 3, 32) := by kernel_rfl

set_option maxHeartbeats 2000000 in
set_option maxRecDepth 100000 in
/-- At the end. -/
theorem insEndD (base vb : Nat) (v : Value) (es : List (List Value)) (x : List Value) (w : World) (h : RowIs w base 195 3 v es) (hn : es.length ≤ 1000000)
    (hx : x.length = 3 ∧ ∀ u ∈ x, u.oneCell' = true) (hv : w.heap[vb]? = some (.cells x.toArray 195 (0, 0))) (hbase : base ≤ w.heap.size) :
    Calls Try.prog 132 #[v, .int .i64 es.length, .slice (some ⟨vb, 0, none⟩) 1 1] w fun e w' => ∃ v', e = .returned v' ∧ RowIs w' base 195 3 v' (es ++ [x]) ∧ w.grownBy w' v.ownBlock ∧
      (v'.ownBlock = v.ownBlock ∨ ∃ r, v'.ownBlock = some r ∧ w.heap.size ≤ r) := by
  obtain ⟨i0, hi, hz0, hz1, hz2⟩ := info_parts infoED
  obtain ⟨v', w', hr, hrest⟩ := run_append_elem w base 3 32 vb 186 186 195 i0 _ Try.underlying186 hi hz0 hz1 hz2 rfl v es x h hx hv hn (by decide) hbase
  have HR := Lib.hid hr
  have HX := Lib.hid hrest
  have hp := h.parts
  clear hr hrest h
  rcases hp with ⟨rfl, rfl⟩ | ⟨g, cap, cur, rfl, hbg, hg, hnc, hcm, hcs, htake⟩
  · go_enter Try.func132, Try.ntmps132
    go_wp2_with (at_builtin; refine wpList_append_run _ rfl _ _ 186 186 rfl _ _ rfl rfl HR.out ?_)
    go_ret
    exact ⟨_, rfl, HX.out⟩
  · have HH := Lib.hid (And.intro hg (And.intro hcs htake))
    clear hg hcs htake hv
    unfold maxLen at hcm
    generalize hne : es.length = n at *
    have HNE := Lib.hid hne
    clear hne
    by_cases hc : cap = n
    · subst hc
      go_enter Try.func132, Try.ntmps132
      go_wp2_with (at_builtin; refine wpList_append_run _ rfl _ _ 186 186 rfl _ _ rfl rfl HR.out ?_)
      go_ret
      exact ⟨_, rfl, HX.out⟩
    · go_enter Try.func132, Try.ntmps132
      go_wp2_with (at_builtin; refine wpList_append_run _ rfl _ _ 186 186 rfl _ _ rfl rfl HR.out ?_)
      go_ret
      exact ⟨_, rfl, HX.out⟩

set_option maxHeartbeats 2000000 in
set_option maxRecDepth 100000 in
/-- In the middle, where there is room: in place. -/
theorem insRoomD (base vb g n cap i : Nat) (cur : List Value) (x D : List Value) (w : World) (hi : i < n) (hn : n ≤ 1000000) (hroom : n + 1 ≤ cap) (hcm : cap ≤ 9223372036854775807)
    (hg : w.heap[g]? = some (.cells cur.toArray 195 (0, 0))) (hcs : cur.length = cap * 3) (hD : D = (cur.drop (i * 3)).take ((n - i) * 3)) (h1D : ∀ u ∈ D, u.oneCell' = true)
    (hx : x.length = 3 ∧ ∀ u ∈ x, u.oneCell' = true) (hv : w.heap[vb]? = some (.cells x.toArray 195 (0, 0))) (hne : vb ≠ g) :
    Calls Try.prog 132 #[.slice (some ⟨g, 0, none⟩) n cap, .int .i64 i, .slice (some ⟨vb, 0, none⟩) 1 1] w fun e w' => e = .returned (.slice (some ⟨g, 0, none⟩) (n + 1) cap) ∧
      w' = (w.drew.setRow g (spl cur ((i + 1) * 3) D).toArray).setRow g (spl (spl cur ((i + 1) * 3) D) (i * 3) x).toArray := by
  have hz2 : ¬ ((i : Int) = (n : Int)) := by omega
  have hb2 : ¬ (cap = i + 1) := by omega
  have hb4 : ¬ (cap = i) := by omega
  have hb3 : (i : Int) ≤ (n : Int) + 1 := by omega
  have hin : i ≤ n := by omega
  have hw1 : IntKind.i64.wrap ((i : Int) + 1) = (i : Int) + 1 := by rw [IntKind.wrap_i64]; omega
  have hb1 : (0 : Int) ≤ (i : Int) + 1 := by omega
  have hb5 : (i : Int) + 1 ≤ (n : Int) + 1 := by omega
  have htn : ((i : Int) + 1).toNat = i + 1 := by omega
  have hsz : (Try.prog.info? 195).map (·.size) = some 3 := by
    obtain ⟨i0, hi0, h0, h1, h2⟩ := info_parts infoED
    rw [hi0]; simp [h1]
  have hov : Hid (∀ lb cb, (callFunc 201 #[.slice (some ⟨vb, 0, none⟩) 1 1, .slice (some ⟨g, (i + 1) * 3, none⟩) lb cb]).run Try.prog w = .ok (.value (.bool false)) w) := fun lb cb => by
    rw [run_callFunc_extern Try.func201 (by kernel_rfl) (by kernel_rfl) (by kernel_rfl) (e := Extern.SlicesOverlaps.overlaps #[186, 186] #[4]) (by kernel_rfl),
      Lib.run_overlaps_apart w 186 4 195 Try.underlying186 3 (fun w => by kernel_rfl) ⟨vb, 0, none⟩ ⟨g, (i + 1) * 3, none⟩ 1 1 lb cb hne 195 195 x.toArray.size cur.toArray.size (by simp [World.shape?, hv]) (by simp [World.shape?, hg]) (by rw [List.size_toArray, hcs]; omega) (by simp [World.frozen?, hv]) (by simp [World.frozen?, hv])]
    rfl
  have hDl : D.length = (n - i) * 3 := by rw [hD]; simp; omega
  have hcp1 : ∀ ty dc sc, (Builtin.copy_ #[186, 186] ty #[.slice (some ⟨g, (i + 1) * 3, none⟩) (n - i) dc, .slice (some ⟨g, i * 3, none⟩) (n + 1 - i) sc]).run Try.prog w.drew = .ok (goInt (Nat.min (n + 1 - i) (n - i))) (w.drew.setRow g (spl cur ((i + 1) * 3) D).toArray) := fun ty dc sc =>
    run_copy_rowK w.drew _ _ ty 195 3 g ((i + 1) * 3) (n - i) dc ⟨g, i * 3, none⟩ (n + 1 - i) sc cur 195 D Try.underlying186 hsz hg (by rw [hDl]; simp only [Nat.min_def]; split <;> omega)
      (fun j v hj => by rw [Addr.add_lit]; rw [hD] at hj; exact part_cells (o := i * 3) (n := (n - i) * 3) w.drew hg (by rw [List.size_toArray, hcs]; omega) j v (by simpa using hj)) (by rw [hDl]; omega) h1D
  obtain ⟨W1, hW1⟩ : ∃ W1, W1 = w.drew.setRow g (spl cur ((i + 1) * 3) D).toArray := ⟨_, rfl⟩
  have hg1 : W1.heap[g]? = some (.cells (spl cur ((i + 1) * 3) D).toArray 195 (0, 0)) := by rw [hW1]; exact setRow_heap w.drew g cur.toArray _ 195 _ hg
  have hv1 : W1.heap[vb]? = some (.cells x.toArray 195 (0, 0)) := by rw [hW1, setRow_other w.drew g vb _ (by omega)]; exact hv
  have hcp2 : ∀ ty dc, (Builtin.copy_ #[186, 186] ty #[.slice (some ⟨g, i * 3, none⟩) (n + 1 - i) dc, .slice (some ⟨vb, 0, none⟩) 1 1]).run Try.prog W1 = .ok (goInt (Nat.min 1 (n + 1 - i))) (W1.setRow g (spl (spl cur ((i + 1) * 3) D) (i * 3) x).toArray) := fun ty dc =>
    run_copy_rowK W1 _ _ ty 195 3 g (i * 3) (n + 1 - i) dc ⟨vb, 0, none⟩ 1 1 _ 195 x Try.underlying186 hsz hg1 (by rw [hx.1]; simp only [Nat.min_def]; split <;> omega)
      (fun j v hj => by rw [Addr.add_lit, Nat.zero_add]; simp only [World.cell?, hv1]; simpa using hj) (by rw [spl_length (by rw [hDl]; omega), hx.1]; omega) hx.2
  rw [← hW1] at hcp1 ⊢
  have hW := Lib.hid hW1
  clear hW1 hg1 hv1 hDl hg hcs hD h1D hx hv hsz
  go_enter Try.func132, Try.ntmps132
  go_wp2_with (simp only [hov.out])
  go_region_law (refine step_copy_runI rfl _ _ 186 186 rfl _ _ (by simp [Act.eval, Act.put]) (by simp [Act.eval, Act.put]) (hcp1 _ _ _) ?_)
  go_wp2_with (at_builtin; refine wpList_copy_runI _ rfl _ _ 186 186 rfl _ _ rfl rfl (hcp2 _ _) ?_)
  go_ret
  exact ⟨rfl, rfl⟩

set_option maxHeartbeats 2000000 in
set_option maxRecDepth 100000 in
/-- In the middle, where there is no room: a new row. -/
theorem insGrowD (vb g n i : Nat) (cur : List Value) (x A D : List Value) (w : World) (hi : i < n) (hn : n ≤ 1000000)
    (hg : w.heap[g]? = some (.cells cur.toArray 195 (0, 0))) (hcs : cur.length = n * 3) (hA : A = cur.take (i * 3)) (hD : D = (cur.drop (i * 3)).take ((n - i) * 3)) (h1D : ∀ u ∈ D, u.oneCell' = true)
    (hx : x.length = 3 ∧ ∀ u ∈ x, u.oneCell' = true) (hv : w.heap[vb]? = some (.cells x.toArray 195 (0, 0))) :
    Calls Try.prog 132 #[.slice (some ⟨g, 0, none⟩) n n, .int .i64 i, .slice (some ⟨vb, 0, none⟩) 1 1] w fun e w' => ∃ (G : Nat) (R : List Value), e = .returned (.slice (some ⟨w.heap.size, 0, none⟩) (n + 1) G) ∧ n + 1 ≤ G ∧ G ≤ 9223372036854775807 ∧ R.length = G * 3 ∧ R.take (i * 3) = A ∧
      w' = ((w.drew.alloc (.cells R.toArray 195)).setRow w.heap.size (spl R (i * 3) x).toArray).drew.setRow w.heap.size (spl (spl R (i * 3) x) ((i + 1) * 3) D).toArray := by
  have hz2 : ¬ ((i : Int) = (n : Int)) := by omega
  have hz3 : (n : Int) < (n : Int) + 1 := by omega
  have hb4 : ¬ (n = i) := by omega
  have hin : i ≤ n := by omega
  have hw1 : IntKind.i64.wrap ((i : Int) + 1) = (i : Int) + 1 := by rw [IntKind.wrap_i64]; omega
  have hb1 : (0 : Int) ≤ (i : Int) + 1 := by omega
  have hb5 : (i : Int) + 1 ≤ (n : Int) + 1 := by omega
  have hb6 : (i : Int) ≤ (n : Int) + 1 := by omega
  have htn : ((i : Int) + 1).toNat = i + 1 := by omega
  have hkk : (n : Int) + 1 - (i : Int) = ((n + 1 - i : Nat) : Int) := by omega
  have hik : i + (n + 1 - i) = n + 1 := by omega
  obtain ⟨i0, hi0, hz0, hzs, hzb⟩ := info_parts infoED
  have hsz : (Try.prog.info? 195).map (·.size) = some 3 := by rw [hi0]; simp [hzs]
  have hgw : g < w.heap.size := (Array.getElem?_eq_some_iff.1 hg).1
  have hvw : vb < w.heap.size := (Array.getElem?_eq_some_iff.1 hv).1
  have hAl : A.length = i * 3 := by rw [hA, List.length_take, hcs]; omega
  have hDl : D.length = (n - i) * 3 := by rw [hD]; simp; omega
  have hold : (Builtin.firstCells i0.size i (.slice (some ⟨g, 0, none⟩) i n)).run Try.prog w.drew = .ok A.toArray w.drew := by
    rw [hzs]
    exact run_firstCells_some w.drew 3 i ⟨g, 0, none⟩ i n A hAl (fun j v hj => by
      rw [Addr.add_lit]
      rw [hA] at hj
      exact part_cells (o := 0) (n := i * 3) w.drew hg (by rw [List.size_toArray, hcs]; omega) j v (by simpa using hj))
  have hrz : ∀ ty, (Builtin.append_ #[186, 3] ty #[.slice (some ⟨g, 0, none⟩) i n, .int .i64 ((n : Int) + 1 - (i : Int))]).run Try.prog w =
      .ok (.slice (some ⟨w.heap.size, 0, none⟩) (n + 1) (grownCap w (n + 1) n 195)) (w.drew.alloc (.cells (A.toArray ++ Builtin.zeroCells (Value.agg #[.int .u8 0, .int .i64 0, .string ⟨#[]⟩]).cells (n + 1 - i) ++ Builtin.zeroCells (Value.agg #[.int .u8 0, .int .i64 0, .string ⟨#[]⟩]).cells (grownCap w (n + 1) n 195 - (n + 1))) 195)) := fun ty => by
    have h := Lib.run_append_grow_zeros w 186 3 ty 195 i0 _ .i64 .i64 Try.underlying186 Try.underlying3 hi0 hz0 (some ⟨g, 0, none⟩) i n A hold (n + 1 - i) (by omega) (by omega) (by omega) (by omega) (by rw [hzb]; omega) (by rw [hzb, hik]; exact growslice_fits (by omega) (by omega))
    rw [hik] at h
    rw [hkk]
    exact h
  obtain ⟨G, hG⟩ : ∃ G, G = grownCap w (n + 1) n 195 := ⟨_, rfl⟩
  obtain ⟨R, hR⟩ : ∃ R : List Value, R = A ++ (Builtin.zeroCells (Value.agg #[.int .u8 0, .int .i64 0, .string ⟨#[]⟩]).cells (n + 1 - i)).toList ++ (Builtin.zeroCells (Value.agg #[.int .u8 0, .int .i64 0, .string ⟨#[]⟩]).cells (G - (n + 1))).toList := ⟨_, rfl⟩
  have hRa : A.toArray ++ Builtin.zeroCells (Value.agg #[.int .u8 0, .int .i64 0, .string ⟨#[]⟩]).cells (n + 1 - i) ++ Builtin.zeroCells (Value.agg #[.int .u8 0, .int .i64 0, .string ⟨#[]⟩]).cells (G - (n + 1)) = R.toArray := by rw [hR]; exact Array.ext' (by simp)
  rw [← hG] at hrz
  rw [hRa] at hrz
  have hGn : n + 1 ≤ G := by rw [hG]; exact grownCap_ge w _ _ _
  have hG63 : G ≤ 9223372036854775807 := by
    have := grownCap_le_maxLen w (n + 1) n 195 (by unfold maxLen; omega)
    rw [← hG] at this
    unfold maxLen at this
    omega
  have hRl : R.length = G * 3 := by
    rw [hR]
    simp only [List.length_append, Array.length_toList, size_zeroCells, hAl]
    rw [show (Value.agg #[.int .u8 0, .int .i64 0, .string ⟨#[]⟩]).cells.size = 3 from rfl, ← Nat.add_mul, ← Nat.add_mul]
    congr 1
    omega
  have hRA : R.take (i * 3) = A := by rw [hR, List.append_assoc, ← hAl]; exact List.take_left
  have hGi : ¬ (G = i) := by omega
  have hGim : ¬ (G = i + 1) := by omega
  obtain ⟨W1, hW1⟩ : ∃ W1, W1 = w.drew.alloc (.cells R.toArray 195) := ⟨_, rfl⟩
  rw [← hW1] at hrz
  have hN1 : W1.heap[w.heap.size]? = some (.cells R.toArray 195 (0, 0)) := by rw [hW1]; exact heap_alloc_new w.drew _
  have hg1 : W1.heap[g]? = some (.cells cur.toArray 195 (0, 0)) := by rw [hW1, Below.heap_alloc w.drew _ g hgw]; exact hg
  have hv1 : W1.heap[vb]? = some (.cells x.toArray 195 (0, 0)) := by rw [hW1, Below.heap_alloc w.drew _ vb hvw]; exact hv
  have hcpA : ∀ ty dc, (Builtin.copy_ #[186, 186] ty #[.slice (some ⟨w.heap.size, i * 3, none⟩) (n + 1 - i) dc, .slice (some ⟨vb, 0, none⟩) 1 1]).run Try.prog W1 = .ok (goInt (Nat.min 1 (n + 1 - i))) (W1.setRow w.heap.size (spl R (i * 3) x).toArray) := fun ty dc =>
    run_copy_rowK W1 _ _ ty 195 3 w.heap.size (i * 3) (n + 1 - i) dc ⟨vb, 0, none⟩ 1 1 R 195 x Try.underlying186 hsz hN1 (by rw [hx.1]; simp only [Nat.min_def]; split <;> omega)
      (fun j v hj => by rw [Addr.add_lit, Nat.zero_add]; simp only [World.cell?, hv1]; simpa using hj) (by rw [hx.1, hRl]; omega) hx.2
  obtain ⟨W2, hW2⟩ : ∃ W2, W2 = W1.setRow w.heap.size (spl R (i * 3) x).toArray := ⟨_, rfl⟩
  rw [← hW2] at hcpA
  have hN2 : W2.heap[w.heap.size]? = some (.cells (spl R (i * 3) x).toArray 195 (0, 0)) := by rw [hW2]; exact setRow_heap W1 _ R.toArray _ 195 _ hN1
  have hg2 : W2.heap[g]? = some (.cells cur.toArray 195 (0, 0)) := by rw [hW2, setRow_other W1 _ g _ (by omega)]; exact hg1
  have hcpB : ∀ ty dc sc, (Builtin.copy_ #[186, 186] ty #[.slice (some ⟨w.heap.size, (i + 1) * 3, none⟩) (n - i) dc, .slice (some ⟨g, i * 3, none⟩) (n - i) sc]).run Try.prog W2.drew = .ok (goInt (Nat.min (n - i) (n - i))) (W2.drew.setRow w.heap.size (spl (spl R (i * 3) x) ((i + 1) * 3) D).toArray) := fun ty dc sc =>
    run_copy_rowK W2.drew _ _ ty 195 3 w.heap.size ((i + 1) * 3) (n - i) dc ⟨g, i * 3, none⟩ (n - i) sc _ 195 D Try.underlying186 hsz hN2 (by rw [hDl]; simp only [Nat.min_def]; split <;> omega)
      (fun j v hj => by rw [Addr.add_lit]; rw [hD] at hj; exact part_cells (o := i * 3) (n := (n - i) * 3) W2.drew hg2 (by rw [List.size_toArray, hcs]; omega) j v (by simpa using hj)) (by rw [spl_length (by rw [hx.1, hRl]; omega), hDl, hRl]; omega) h1D
  have HW := Lib.hid (And.intro hW1 hW2)
  have HR := Lib.hid (And.intro hRl hRA)
  clear hW1 hW2 hN1 hg1 hv1 hN2 hg2 hRl hRA hR hRa hG hold hg hcs hA hD h1D hx hv hsz hAl hDl hkk hik hzs hzb hz0 hi0
  go_enter Try.func132, Try.ntmps132
  go_wp2_with (at_builtin; refine wpList_append_run _ rfl _ _ 186 3 rfl _ _ rfl rfl (hrz _) ?_)
  go_wp2_with (at_builtin; refine wpList_copy_runI _ rfl _ _ 186 186 rfl _ _ rfl rfl (hcpA _ _) ?_)
  go_region_law (refine step_copy_runI rfl _ _ 186 186 rfl _ _ (by simp [Act.eval, Act.put]) (by simp [Act.eval, Act.put]) (hcpB _ _ _) ?_)
  go_wp2
  go_ret
  exact ⟨G, R, rfl, hGn, hG63, HR.out.1, HR.out.2, by rw [HW.out.2, HW.out.1]⟩

/-- slices.Insert of one element. -/
theorem insD (base vb : Nat) (v : Value) (es : List (List Value)) (x : List Value) (i : Nat) (w : World) (h : RowIs w base 195 3 v es) (hi : i ≤ es.length) (hn : es.length ≤ 1000000)
    (hx : x.length = 3 ∧ ∀ u ∈ x, u.oneCell' = true) (hv : w.heap[vb]? = some (.cells x.toArray 195 (0, 0))) (hvb : v.ownBlock ≠ some vb) (hbase : base ≤ w.heap.size) :
    Calls Try.prog 132 #[v, .int .i64 i, .slice (some ⟨vb, 0, none⟩) 1 1] w fun e w' => ∃ v', e = .returned v' ∧ RowIs w' base 195 3 v' (es.take i ++ x :: es.drop i) ∧ w.grownBy w' v.ownBlock ∧
      (v'.ownBlock = v.ownBlock ∨ ∃ r, v'.ownBlock = some r ∧ w.heap.size ≤ r) := by
  rcases Nat.lt_or_ge i es.length with hlt | hge
  · rcases h.parts with ⟨rfl, rfl⟩ | ⟨g, cap, cur, rfl, hbg, hg, hnc, hcm, hcs, htake⟩
    · simp at hlt
    · have hA := row_ahead h.2 htake hi
      have hD := row_behind h.2 htake hi
      have hAl := (h.2.take i).len
      have hDl := (h.2.drop i).len
      rw [List.length_take, Nat.min_eq_left hi] at hAl
      rw [List.length_drop] at hDl
      have hcl : cur.toList.length = cap * 3 := by simpa using hcs
      have hg' : w.heap[g]? = some (.cells cur.toList.toArray 195 (0, 0)) := by simpa using hg
      have hes := h.2.insert hx i
      have hlen := len_insert (x := x) hi
      have hfl : (es.take i ++ x :: es.drop i).flatten = (es.take i).flatten ++ x ++ (es.drop i).flatten := by simp
      have e1 : i * 3 + x.length = (i + 1) * 3 := by rw [hx.1]; omega
      have e2 : (i + 1) * 3 + (es.drop i).flatten.length = (es.length + 1) * 3 := by rw [hDl]; omega
      unfold maxLen at hcm
      by_cases hroom : es.length + 1 ≤ cap
      · refine (insRoomD base vb g es.length cap i cur.toList x _ w hlt hn hroom hcm hg' hcl hD (h.2.drop i).one hx hv (fun e => hvb (by rw [e]; rfl))).mono ?_
        rintro e w' ⟨rfl, rfl⟩
        refine ⟨_, rfl, ?_, ?_, .inl rfl⟩
        · refine rowIs_mk hlen hbg (setRow_heap _ g _ _ 195 _ (setRow_heap w.drew g _ _ 195 _ hg')) hroom (by unfold maxLen; omega) ?_ hes ?_
          · rw [spl_length, spl_length, hcl]
            · rw [e2, hcl]; omega
            · rw [spl_length, e1, hcl]
              · omega
              · rw [e2, hcl]; omega
          · have := spl_shift (cur := cur.toList) (D := (es.drop i).flatten) (x := x) (o := i * 3) (by rw [e1, e2, hcl]; omega)
            rw [e1, e2] at this
            rw [this, hfl, hA]
        · exact grownBy_trans (grownBy_drew w _) (grownBy_trans (setRow_grown w.drew g _) (setRow_grown _ g _))
      · obtain rfl : cap = es.length := by omega
        refine (insGrowD vb g es.length i cur.toList x _ _ w hlt hn hg' hcl hA hD (h.2.drop i).one hx hv).mono ?_
        rintro e w' ⟨G, R, rfl, hG1, hG2, hRl, hRA, rfl⟩
        have hW0 : (w.drew.alloc (.cells R.toArray 195)).heap[w.heap.size]? = some (.cells R.toArray 195 (0, 0)) := heap_alloc_new w.drew _
        refine ⟨_, rfl, ?_, ?_, .inr ⟨_, rfl, Nat.le_refl _⟩⟩
        · refine rowIs_mk hlen hbase (setRow_heap (((w.drew.alloc (.cells R.toArray 195)).setRow w.heap.size (spl R (i * 3) x).toArray).drew) w.heap.size _ _ 195 _ (setRow_heap _ _ _ _ 195 _ hW0)) hG1 (by unfold maxLen; omega) ?_ hes ?_
          · rw [spl_length, spl_length, hRl]
            · rw [e1, hRl]; omega
            · rw [spl_length, e2, hRl] <;> (try rw [e1, hRl]) <;> omega
          · have := spl_behind (cur := R) (D := (es.drop i).flatten) (x := x) (o := i * 3) (by rw [e1, e2, hRl]; omega)
            rw [e1, e2] at this
            rw [this, hfl, hRA]
        · exact grownBy_new (grownBy_trans (grownBy_drew w _) (World.grownBy_alloc w.drew _ _)) (grownBy_trans (setRow_grown _ _ _) (grownBy_trans (grownBy_drew _ _) (setRow_grown _ _ _))) (Nat.le_refl _)
  · obtain rfl : i = es.length := by omega
    rw [List.take_of_length_le (Nat.le_refl _), List.drop_of_length_le (Nat.le_refl _)]
    exact insEndD base vb v es x w h hn hx hv hbase
end Go.Proofs.Ytpnhklehpilopaa
