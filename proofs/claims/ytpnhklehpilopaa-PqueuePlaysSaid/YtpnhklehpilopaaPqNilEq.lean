/- A slice compared with nil. Of no program. -/
import Derived.Test.YtpnhklehpilopaaOmMem2
namespace Go.Proofs.Ytpnhklehpilopaa
open Go Go.RowKit

/-- A slice compared with nil. -/
theorem run_eql_slice_nil4 {P : Program} (w : World) {t e : TypeId} (h : P.underlying t = some (.slice e)) (p : Option Addr) (n c : Nat) : (binOp .eql t (.slice p n c) (.slice none 0 0)).run P w = .ok (.bool p.isNone) w := by
  have h9 : ∀ d : Nat, (Op.equalIn (d + 1) t (.slice p n c) (.slice none 0 0)).run P w = .ok p.isNone w := fun d => by cases p <;> simp [Op.equalIn, run_underlying h]
  simp only [binOp]
  simp [Op.equal, Op.maxDepth, h9 9999]

/-- A composite built, in a region that draws. -/
theorem step_build_run {P : Program} {ops : Array Oper} {o : Oper} {a : Act} {w : World} {K : Act → World → Prop} {Q : Exit → Act → World → Prop} {E : Prop}
    (hg : o.guard = none) (t : TypeId) (parts : Array (Nat × Operand)) (hop : o.op = Op.build t parts) (parts' : Array (Nat × Value)) (hp : (parts.map fun (i, x) => (i, a.eval x)) = parts') {v : Value}
    (hr : (Instr.build t parts').run P w = .ok v w) (hK : K (a.put o.dst v) w) :
    if Region.wanted o (yielded ops a.tmps) = true then Oper.wp P o a w K Q else E := by
  have hw : Region.wanted o (yielded ops a.tmps) = true := by simp [Region.wanted, hg]
  rw [if_pos hw]
  unfold Oper.wp
  subst hp
  simp [execOp, hop, hr, Result.andThen]
  exact hK

/-- append to a slice that was just made without elements. -/
theorem run_append_fresh {P : Program} (w : World) (base K bytes : Nat) (t ty E : TypeId) (i : TypeInfo) (z : Value) (ht : P.underlying t = some (.slice E)) (hi : P.info? E = some i) (hz : i.zero = some z)
    (hsize : i.size = K) (hby : i.bytes = bytes) (hzs : z.cells.size = K) (B g n cap : Nat) (es : List (List Value)) (he : Elems K es) (hn : es.length = n)
    (hcell : ∀ j u, es.flatten[j]? = some u → w.cell? ((⟨g, 0, none⟩ : Addr).add j) = some u) (hB : w.heap[B]? = some (.cells #[] E (0, 0))) (hbB : base ≤ B) (hbase : base ≤ w.heap.size) (hn1 : n ≤ 1000000) (hb : bytes ≤ 1000) :
    ∃ v' w', (Builtin.append_ #[t, t] ty #[.slice (some ⟨B, 0, none⟩) 0 0, .slice (some ⟨g, 0, none⟩) n cap]).run P w = .ok v' w' ∧ RowIs w' base E K v' es ∧ Below w.heap.size w w' := by
  subst hsize
  subst hby
  rcases Nat.eq_zero_or_pos n with h0 | h0
  · subst h0
    obtain rfl : es = [] := List.eq_nil_of_length_eq_zero hn
    refine ⟨.slice (some ⟨B, 0, none⟩) 0 0, w, ?_, rowIs_mk (cur := []) rfl hbB hB (Nat.le_refl _) (by unfold maxLen; omega) (by simp) (fun e h => by simp at h) (by simp), Below.refl _ _⟩
    have hf := run_firstCells_some (P := P) w i.size 0 ⟨g, 0, none⟩ 0 cap [] (by simp) (fun j v h => by simp at h)
    simp [Builtin.append_, run_underlying ht, Builtin.lenOf, sizeOf, typeInfo, hi, hf, storeCells]
  · have hsmall : n * i.bytes ≤ 140737488355328 := by
      have := Nat.mul_le_mul hn1 hb
      omega
    have hl : es.flatten.length = n * i.size := by rw [he.len, hn]
    have hr := run_append_grow (P := P) w t ty E i z ht hi hz ⟨B, 0, none⟩ 0 0 [] (by simp) (fun j v h => by simp at h) ⟨g, 0, none⟩ n cap es.flatten hl hcell (by omega) (by omega) (growslice_fits (by omega) (by simpa using hsmall))
    rw [Nat.zero_add] at hr
    have hge := grownCap_ge w n 0 E
    have hcm : grownCap w n 0 E ≤ maxLen := grownCap_le_maxLen w n 0 E (by unfold maxLen; omega)
    refine ⟨_, _, hr, ?_, (Below.refl _ _).drew.alloc (Nat.le_refl _) _⟩
    refine rowIs_mk (cur := es.flatten ++ (Builtin.zeroCells z.cells (grownCap w n 0 E - n)).toList) hn hbase ?_ hge hcm ?_ he ?_
    · rw [show #[] ++ es.flatten.toArray ++ Builtin.zeroCells z.cells (grownCap w n 0 E - n) = (es.flatten ++ (Builtin.zeroCells z.cells (grownCap w n 0 E - n)).toList).toArray from Array.ext' (by simp)]
      exact heap_alloc_new w.drew _
    · simp only [List.length_append, Array.length_toList, size_zeroCells, hzs]
      rw [hl, ← Nat.add_mul]
      congr 1
      omega
    · rw [← hl]
      exact List.take_left
end Go.Proofs.Ytpnhklehpilopaa
