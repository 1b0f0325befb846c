/- slices.Delete at the pairs of an ordered map, one element: a row of its own again. -/
import Derived.Test.YtpnhklehpilopaaOmInsC
namespace Go.Proofs.Ytpnhklehpilopaa
open Go Go.RowKit

theorem zeroEC : ∀ w, (zeroValue 181).run Try.prog w = .ok (.agg #[.int .i64 0, .int .i64 0]) w := fun w => by kernel_rfl

set_option maxHeartbeats 2000000 in
set_option maxRecDepth 100000 in
theorem delRoomC (g n cap i : Nat) (cur : List Value) (D : List Value) (w : World) (hi : i < n) (hn : n ≤ 1000000) (hnc : n ≤ cap) (hcm : cap ≤ 9223372036854775807)
    (hg : w.heap[g]? = some (.cells cur.toArray 181 (0, 0))) (hcs : cur.length = cap * 2) (hD : D = (cur.drop ((i + 1) * 2)).take ((n - (i + 1)) * 2)) (h1D : ∀ u ∈ D, u.oneCell' = true) :
    Calls Try.prog 128 #[.slice (some ⟨g, 0, none⟩) n cap, .int .i64 i, .int .i64 (i + 1 : Int)] w fun e w' => e = .returned (.slice (some ⟨g, 0, none⟩) (n - 1) cap) ∧
      w' = (w.drew.setRow g (spl cur (i * 2) D).toArray).setRow g (spl (spl cur (i * 2) D) ((n - 1) * 2) (Value.agg #[.int .i64 0, .int .i64 0]).cells.toList).toArray := by
  have hb0 : (0 : Int) ≤ (i : Int) + 1 := by omega
  have hb1 : (i : Int) + 1 ≤ (n : Int) := by omega
  have htn : ((i : Int) + 1).toNat = i + 1 := by omega
  have hne : ((i : Int) == (i : Int) + 1) = false := by simp; omega
  have hic : i ≤ cap := by omega
  have hb2 : i ≤ n := by omega
  have hb3 : ¬ (cap = i) := by omega
  have hb4 : ¬ (n = i) := by omega
  have hcn : ¬ (cap = n - 1) := by omega
  have hn1 : n - 1 ≤ n := by omega
  have hlen : i + (n - (i + 1)) = n - 1 := by omega
  have hone : n - (n - 1) = 1 := by omega
  have hDl : D.length = (n - (i + 1)) * 2 := by rw [hD]; simp; omega
  obtain ⟨i0, hi0, hz0, hzs, hzb⟩ := info_parts infoEC
  have htl : i * 2 + D.length ≤ cur.length := by rw [hDl, hcs]; omega
  have happ : ∀ ty (A : Addr), (∀ j u, D[j]? = some u → w.drew.cell? (A.add j) = some u) → (Builtin.append_ #[176, 176] ty #[.slice (some ⟨g, 0, none⟩) i cap, .slice (some A) (n - (i + 1)) (cap - (i + 1))]).run Try.prog w.drew = .ok (.slice (some ⟨g, 0, none⟩) (n - 1) cap) (w.drew.setRow g (spl cur (i * 2) D).toArray) := fun ty A hA => by
    have := run_append_room (P := Try.prog) w.drew 176 ty 181 i0 Try.underlying176 hi0 g i cap cur.toArray hg A (n - (i + 1)) (cap - (i + 1)) D (by rw [hzs]; exact hDl) hA h1D (by omega) (by rw [hzs]; simpa using htl)
    rw [hzs, hlen] at this
    exact this
  obtain ⟨W1, hW1⟩ : ∃ W1, W1 = w.drew.setRow g (spl cur (i * 2) D).toArray := ⟨_, rfl⟩
  have hg1 : W1.heap[g]? = some (.cells (spl cur (i * 2) D).toArray 181 (0, 0)) := by rw [hW1]; exact setRow_heap w.drew g cur.toArray _ 181 _ hg
  have hcl : ∀ ty c, (Builtin.clear_ #[176] ty #[.slice (some ⟨g, (n - 1) * 2, none⟩) 1 c]).run Try.prog W1 = .ok (.tuple #[]) (W1.setRow g (spl (spl cur (i * 2) D) ((n - 1) * 2) (Value.agg #[.int .i64 0, .int .i64 0]).cells.toList).toArray) := fun ty c =>
    run_clear_rowK W1 176 181 ty 2 _ Try.underlying176 zeroEC rfl (by decide) g ((n - 1) * 2) c _ hg1 (by rw [spl_length htl, hcs]; omega)
  rw [← hW1] at happ ⊢
  have hW := Lib.hid hW1
  by_cases hce : cap = i + 1
  · have hD0 : D = [] := List.eq_nil_of_length_eq_zero (by rw [hDl]; omega)
    have happ1 := fun ty => happ ty ⟨g, 0, none⟩ (fun j u hj => by rw [hD0] at hj; simp at hj)
    clear hW1 hg1 hg hcs hD h1D hDl htl happ hlen hD0 hz0 hzs hzb hi0
    subst hce
    have h0 : n - (i + 1) = 0 := by omega
    simp only [Nat.sub_self, h0] at happ1
    have hb9 : (i : Int) ≤ (i : Int) + 1 := by omega
    go_enter Try.func128, Try.ntmps128
    go_wp2
    go_region_law (refine step_append_run rfl _ _ 176 176 rfl _ _ (by simp [Act.eval, Act.put]) (by simp [Act.eval, Act.put]) (happ1 _) ?_)
    go_wp2
    go_ret
    exact ⟨rfl, rfl⟩
  · have happ1 := fun ty => happ ty ⟨g, (i + 1) * 2, none⟩ (fun j u hj => by
      rw [Addr.add_lit]; rw [hD] at hj; exact part_cells (o := (i + 1) * 2) (n := (n - (i + 1)) * 2) w.drew hg (by rw [List.size_toArray, hcs]; omega) j u (by simpa using hj))
    clear hW1 hg1 hg hcs hD h1D hDl htl happ hlen hz0 hzs hzb hi0
    go_enter Try.func128, Try.ntmps128
    go_wp2
    go_region_law (refine step_append_run rfl _ _ 176 176 rfl _ _ (by simp [Act.eval, Act.put]) (by simp [Act.eval, Act.put]) (happ1 _) ?_)
    go_wp2
    go_ret
    exact ⟨rfl, rfl⟩

/-- slices.Delete of one element. -/
theorem delC (base : Nat) (v : Value) (es : List (List Value)) (i : Nat) (w : World) (h : RowIs w base 181 2 v es) (hi : i < es.length) (hn : es.length ≤ 1000000) :
    Calls Try.prog 128 #[v, .int .i64 i, .int .i64 (i + 1 : Int)] w fun e w' => ∃ v', e = .returned v' ∧ RowIs w' base 181 2 v' (es.take i ++ es.drop (i + 1)) ∧ w.grownBy w' v.ownBlock ∧ v'.ownBlock = v.ownBlock := by
  rcases h.parts with ⟨rfl, rfl⟩ | ⟨g, cap, cur, rfl, hbg, hg, hnc, hcm, hcs, htake⟩
  · simp at hi
  · have hA := row_ahead h.2 htake (i := i) (by omega)
    have hD := row_behind h.2 htake (i := i + 1) (by omega)
    have hDl := (h.2.drop (i + 1)).len
    rw [List.length_drop] at hDl
    have hcl : cur.toList.length = cap * 2 := by simpa using hcs
    have hg' : w.heap[g]? = some (.cells cur.toList.toArray 181 (0, 0)) := by simpa using hg
    have hlen : (es.take i ++ es.drop (i + 1)).length = es.length - 1 := by simp; omega
    have e1 : i * 2 + (es.drop (i + 1)).flatten.length = (es.length - 1) * 2 := by rw [hDl]; omega
    have hz : (Value.agg #[.int .i64 0, .int .i64 0]).cells.toList.length = 2 := rfl
    unfold maxLen at hcm
    refine (delRoomC g es.length cap i cur.toList _ w hi hn hnc hcm hg' hcl hD (h.2.drop (i + 1)).one).mono ?_
    rintro e w' ⟨rfl, rfl⟩
    refine ⟨_, rfl, ?_, ?_, rfl⟩
    · have h1 : (spl cur.toList (i * 2) (es.drop (i + 1)).flatten).length = cap * 2 := by rw [spl_length, hcl]; rw [e1, hcl]; omega
      refine rowIs_mk hlen hbg (setRow_heap _ g _ _ 181 _ (setRow_heap w.drew g _ _ 181 _ hg')) (by omega) (by unfold maxLen; omega) ?_ ((h.2.take i).append (h.2.drop (i + 1))) ?_
      · rw [spl_length, h1]; rw [hz, h1]; omega
      · rw [spl_take_le (Nat.le_refl _) (by rw [h1]; omega), ← e1, spl_take (by rw [e1, hcl]; omega), List.flatten_append, hA]
    · exact grownBy_trans (grownBy_drew w _) (grownBy_trans (setRow_grown w.drew g _) (setRow_grown _ g _))
end Go.Proofs.Ytpnhklehpilopaa
