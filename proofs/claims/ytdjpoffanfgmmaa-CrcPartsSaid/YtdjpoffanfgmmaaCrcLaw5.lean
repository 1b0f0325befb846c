/- CrcZeros: the walk, over the contracts of package crc. -/
import Derived.Test.YtdjpoffanfgmmaaCrcLaw4
import Derived.Laws.AppendOwnNone
namespace Go.Proofs.Ytdjpoffanfgmmaa
open Go Go.RowKit

theorem zeros_sl {w : World} {base : Nat} {e : TypeId} {g k : Nat} (h : w.ownsRow base e 1 (.slice (some ⟨g, 0, none⟩) k k) k (madeCells (Value.int .u8 0).cells (k * 1)).toList) : Sl w (some ⟨g, 0, none⟩) k k (List.replicate k 0) := by
  have h1 : (madeCells (Value.int .u8 0).cells (k * 1)).toList = (List.replicate k (0 : Int)).map (Value.int .u8) := by
    rw [show (Value.int .u8 0).cells = #[Value.int .u8 0] from rfl, toList_madeCells_one, Nat.mul_one, List.map_replicate]
  rw [h1] at h
  obtain ⟨p', n', c', hv, hs⟩ := sl_owns h (fun y hy => by have := (List.mem_replicate.1 hy).2; omega)
  cases hv
  exact hs

theorem sl_kept_far {w w' : World} {g0 g n c : Nat} {l : List Int} (h : Sl w (some ⟨g0, 0, none⟩) n c l) (hg : w.grownBy w' (some g)) (hne : g0 < g) : Sl w' (some ⟨g0, 0, none⟩) n c l :=
  h.kept hg (fun a ha h2 => by
    cases ha
    have h3 : g0 = g := Option.some.inj h2
    omega)

/-- An operation whose guard says yes. -/
theorem wpList_asked {P : Program} {w : World} {ops : Array Oper} {rest : List Oper} {o : Oper} {a : Act} {Q : Exit → Act → World → Prop} (hw : Region.wanted o (yielded ops a.tmps) = true)
    (h : ∀ K : Act → World → Prop, (∀ a w, wpList P ops Q rest a w → K a w) → o.wp P a w K Q) : wpList P ops Q (o :: rest) a w :=
  wpList_step fun K hK => by rw [if_pos hw]; exact h K hK

theorem wpList_append_asked {P : Program} {w : World} {ops : Array Oper} {rest : List Oper} {o : Oper} {a : Act} {Q : Exit → Act → World → Prop} (hw : Region.wanted o (yielded ops a.tmps) = true) (s x : Operand) (t : TypeId)
    (ho : o.op = .call { callee := .builtin .append, args := #[s, x], argTypes := #[t, t] })
    (base : Nat) (e : TypeId) (i : TypeInfo) (z : Value) (size bytes : Nat) (ht : P.underlying t = some (.slice e)) (hi : P.info? e = some i) (hz : i.zero = some z)
    (hsize : i.size = size) (hby : i.bytes = bytes) (hzs : z.cells.size = size) (hsz : 0 < size)
    (v : Value) (n : Nat) (xs : List Value) (hs : a.eval s = v) (hown : w.ownsRow base e size v n xs)
    (ad : Addr) (m c : Nat) (news : List Value) (hx : a.eval x = .slice (some ad) m c) (hl : news.length = m * size) (hnews : ∀ j u, news[j]? = some u → w.cell? (ad.add j) = some u) (h1 : ∀ u ∈ news, u.oneCell' = true)
    (h63 : n + m ≤ maxLen) (hbytes : (n + m) * bytes ≤ 140737488355328) (hbase : base ≤ w.heap.size)
    (h : ∀ v' w', w'.ownsRow base e size v' (n + m) (xs ++ news) → w.grownBy w' v.ownBlock → wpList P ops Q rest (a.put o.dst v') w') : wpList P ops Q (o :: rest) a w :=
  wpList_asked hw fun _ hK => wp_append_own w s x t ho base e i z size bytes ht hi hz hsize hby hzs hsz v n xs hs hown ad m c news hx hl hnews h1 h63 hbytes hbase fun v' w' h2 h3 _ => hK _ _ (h v' w' h2 h3)

theorem wpList_append_asked_none {P : Program} {w : World} {ops : Array Oper} {rest : List Oper} {o : Oper} {a : Act} {Q : Exit → Act → World → Prop} (hw : Region.wanted o (yielded ops a.tmps) = true) (s x : Operand) (t : TypeId)
    (ho : o.op = .call { callee := .builtin .append, args := #[s, x], argTypes := #[t, t] })
    (base : Nat) (e : TypeId) (i : TypeInfo) (size : Nat) (ht : P.underlying t = some (.slice e)) (hi : P.info? e = some i)
    (v : Value) (n : Nat) (xs : List Value) (hs : a.eval s = v) (hown : w.ownsRow base e size v n xs) (hx : a.eval x = .slice none 0 0)
    (h : wpList P ops Q rest (a.put o.dst v) w) : wpList P ops Q (o :: rest) a w := by
  refine wpList_asked hw fun K hK => ?_
  have hrun := run_append_owned_none (P := P) (w := w) base t o.type e i size ht hi v n xs hown
  unfold Oper.wp
  simp [execOp, ho, resolve, invoke, builtin, hs, hx, hrun, Result.andThen]
  exact hK _ _ h

set_option maxHeartbeats 6400000 in
set_option maxRecDepth 100000 in
theorem crcZeros_sl {L : World → Prop} (H : CrcOk L) (p : Option Addr) (len cap : Nat) (xs : List Int) (n : Nat) (w : World) (h : L w) (hS : Sl w p len cap xs) (hn : n < 65536) :
    Calls Try.prog 11 #[.slice p len cap, .int .u16 n] w fun e w' => e = .returned (.bool true) ∧ Below w.heap.size w w' := by
  have HH := Lib.hid H
  have HL := Lib.hid h
  have HS := Lib.hid hS
  have hlc := hS.cap
  clear H h hS
  obtain ⟨i0, hi, hi0, hi1, hi2⟩ := info_parts Try.info8u
  by_cases hbig : 300 < len
  · go_enter Try.func11, Try.ntmps11
    go_wp2_with fail
    refine (works2_any HH.out _ HL.out).mono ?_
    rintro e w1 ⟨rfl, hb⟩
    go_wp2_with fail
    go_ret
    exact ⟨rfl, hb⟩
  · obtain ⟨k, hk⟩ : ∃ k : Nat, (n : Int) % 2001 = (k : Int) := ⟨n % 2001, by omega⟩
    have hk2 : k ≤ 2000 := by omega
    have HCm := Lib.hid (crcU_comb xs (List.replicate k 0))
    go_enter Try.func11, Try.ntmps11
    go_wp2_with (at_make; refine wpList_make_full _ rfl _ _ 22 rfl w.heap.size 5 i0 (.int .u8 0) 1 Try.underlying22 hi hi0 hi1 _ _ _ _ k rfl rfl hk hk (by rw [hi2]; omega) (by unfold maxLen; omega) (Nat.le_refl _) ?_; intro w1 hown1 hg1)
    have hb1 : Below w.heap.size w w1 := ⟨hg1.os, hg1.tape, hg1.output, hg1.size, fun k hk => hg1.block k hk (by simp)⟩
    have HZ1 := Lib.hid (zeros_sl hown1)
    have HS1 := Lib.hid (HS.out.below hb1)
    have HL1 := Lib.hid (HH.out.below _ _ HL.out hb1)
    have HB1 := Lib.hid hb1
    have hzlt := (hown1.lt _ rfl).2
    have HZl1 := Lib.hid hzlt
    clear hown1 hg1 hb1 hzlt
    refine (HH.out.sum _ _ _ _ _ (by omega) HS1.out HL1.out).mono ?_
    rintro e w2 ⟨rfl, hb⟩
    have HZ2 := Lib.hid (HZ1.out.below hb)
    have HS2 := Lib.hid (HS1.out.below hb)
    have HL2 := Lib.hid (HH.out.below _ _ HL1.out hb)
    have HW12 := Lib.hid hb.size
    have HB2 := Lib.hid (below_then HB1.out hb)
    clear hb HZ1 HS1 HL1 HB1
    go_wp2_with fail
    refine (HH.out.sum _ _ _ _ _ (by omega) HZ2.out HL2.out).mono ?_
    rintro e w3 ⟨rfl, hb⟩
    have HZ3 := Lib.hid (HZ2.out.below hb)
    have HS3 := Lib.hid (HS2.out.below hb)
    have HL3 := Lib.hid (HH.out.below _ _ HL2.out hb)
    have HW13 := Lib.hid (Nat.le_trans HW12.out hb.size)
    have HB3 := Lib.hid (below_then HB2.out hb)
    clear hb HZ2 HS2 HL2 HB2
    go_wp2_with fail
    refine (HH.out.comb _ _ k _ (by omega) HL3.out).mono ?_
    have hlr : (List.replicate k (0 : Int)).length = k := List.length_replicate
    have hcm := HCm.out
    rw [hlr] at hcm
    rw [hcm]
    have HLr := Lib.hid hlr
    clear hcm hlr HCm
    rintro e w4 ⟨rfl, hb⟩
    have HZ4 := Lib.hid (HZ3.out.below hb)
    have HS4 := Lib.hid (HS3.out.below hb)
    have HL4 := Lib.hid (HH.out.below _ _ HL3.out hb)
    have HW14 := Lib.hid (Nat.le_trans HW13.out hb.size)
    have HB4 := Lib.hid (below_then HB3.out hb)
    clear hb HZ3 HS3 HL3 HB3
    have hbA : Below w4.heap.size w4 (w4.alloc (.cells #[] 5)) := (Below.refl _ _).alloc (Nat.le_refl _) _
    have hownA : (w4.alloc (.cells #[] 5)).ownsRow w4.heap.size 5 1 (.slice (some ⟨w4.heap.size, 0, none⟩) 0 0) 0 [] := World.ownsRow_made _ _ 0 (Nat.le_refl _) (Nat.zero_le _) rfl
    have HBA := Lib.hid hbA
    have HZlt : Hid (w.heap.size < w4.heap.size) := Nat.lt_of_lt_of_le HZl1.out HW14.out
    have HOA := Lib.hid hownA
    have HSA := Lib.hid (HS4.out.below hbA)
    have HZA := Lib.hid (HZ4.out.below hbA)
    clear hbA hownA
    cases p with
    | none =>
      have hn0 := HSA.out.nil rfl
      obtain ⟨rfl, rfl⟩ := hn0
      have hx0 : xs = [] := List.eq_nil_of_length_eq_zero HSA.out.len
      subst hx0
      have HCZ := Lib.hid (cells_of_in HZA.out.len HZA.out.bytes _ rfl)
      go_wp2_with (first
        | (at_builtin; refine wpList_append_asked_none rfl _ _ 22 rfl w4.heap.size 5 i0 1 Try.underlying22 hi _ _ _ rfl HOA.out rfl ?_)
        | (at_builtin; refine wpList_append_asked rfl _ _ 22 rfl w4.heap.size 5 i0 (.int .u8 0) 1 1 Try.underlying22 hi hi0 hi1 hi2 rfl (by decide) _ _ _ rfl HOA.out ⟨w.heap.size, 0, none⟩ k k ((List.replicate k 0).map (Value.int .u8)) rfl (by rw [List.length_map, HLr.out]; omega) HCZ.out (ints_oneCell _ _) (by unfold maxLen; omega) (by omega) (by simp) ?_; intro v2 w6 hown2 hgrow2))
      have HLB := Lib.hid (below_then HB4.out ((Below.refl _ _).alloc (Nat.le_refl _) (.cells #[] 5)))
      have hown2' : w6.ownsRow w4.heap.size 5 1 v2 (0 + k) ((([] : List Int) ++ List.replicate k 0).map (Value.int .u8)) := by
        have := hown2
        rw [List.nil_append] at this
        exact this
      obtain ⟨p6, n6, c6, rfl, hs6⟩ := sl_owns hown2' (fun y hy => by
        rcases List.mem_append.1 hy with hy | hy
        · exact (by cases hy)
        · have := (List.mem_replicate.1 hy).2; omega)
      have hn6 : n6 ≤ 1000000 := by
        have := hs6.len
        rw [List.length_append, HLr.out, List.length_nil] at this
        omega
      have hb6 : Below w4.heap.size w4 w6 := (HBA.out.grown hgrow2 (by simp) (fun r hr => by cases hr; exact Nat.le_refl _))
      have HL6 := Lib.hid (HH.out.below _ _ HL4.out hb6)
      have HB6 := Lib.hid (below_then HB4.out hb6)
      clear hown2 hown2' hgrow2
      refine (HH.out.sum _ _ _ _ _ hn6 hs6 HL6.out).mono ?_
      rintro e w7 ⟨rfl, hb7⟩
      have HL7 := Lib.hid (HH.out.below _ _ HL6.out hb7)
      have HB7 := Lib.hid (below_then HB6.out hb7)
      go_wp2_with fail
      refine (works2_any HH.out _ HL7.out).mono ?_
      rintro e w8 ⟨rfl, hb8⟩
      go_wp2_with fail
      go_ret
      exact ⟨rfl, below_then HB7.out hb8⟩
    | some x =>
      have HCX := Lib.hid (cells_of_in HSA.out.len HSA.out.bytes x rfl)
      have hxl := HSA.out.len
      go_wp2_with (first
        | (at_builtin; refine wpList_append_asked rfl _ _ 22 rfl w4.heap.size 5 i0 (.int .u8 0) 1 1 Try.underlying22 hi hi0 hi1 hi2 rfl (by decide) _ _ _ rfl hown1 ⟨w.heap.size, 0, none⟩ k k ((List.replicate k 0).map (Value.int .u8)) rfl (by rw [List.length_map, HLr.out]; omega) (cells_of_in (sl_kept_far HZA.out (g := w4.heap.size) hgrow1 HZlt.out).len (sl_kept_far HZA.out (g := w4.heap.size) hgrow1 HZlt.out).bytes _ rfl) (ints_oneCell _ _) (by unfold maxLen; omega) (by omega) (by have := hgrow1.size; simp at this; omega) ?_; intro v2 w6 hown2 hgrow2)
        | (at_builtin; refine wpList_append_asked rfl _ _ 22 rfl w4.heap.size 5 i0 (.int .u8 0) 1 1 Try.underlying22 hi hi0 hi1 hi2 rfl (by decide) _ _ _ rfl HOA.out x len cap (xs.map (Value.int .u8)) rfl (by rw [List.length_map, HSA.out.len]; omega) HCX.out (ints_oneCell _ _) (by unfold maxLen; omega) (by omega) (by simp) ?_; intro v1 w5 hown1 hgrow1))
      have HLB := Lib.hid (below_then HB4.out ((Below.refl _ _).alloc (Nat.le_refl _) (.cells #[] 5)))
      have hown2' : w6.ownsRow w4.heap.size 5 1 v2 (0 + len + k) ((xs ++ List.replicate k 0).map (Value.int .u8)) := by
        have := hown2
        rw [List.nil_append, ← List.map_append] at this
        exact this
      obtain ⟨p6, n6, c6, rfl, hs6⟩ := sl_owns hown2' (fun y hy => by
        rcases List.mem_append.1 hy with hy | hy
        · exact (HSA.out.rng y hy)
        · have := (List.mem_replicate.1 hy).2; omega)
      have hn6 : n6 ≤ 1000000 := by
        have := hs6.len
        rw [List.length_append, HLr.out, hxl] at this
        omega
      have hb6 : Below w4.heap.size w4 w6 := ((HBA.out.grown hgrow1 (by simp) (fun r hr => by cases hr; exact Nat.le_refl _)).grown hgrow2 (by have := hgrow1.size; simp at this; omega) (fun r hr => (hown1.lt r hr).1))
      have HL6 := Lib.hid (HH.out.below _ _ HL4.out hb6)
      have HB6 := Lib.hid (below_then HB4.out hb6)
      clear hown2 hown2' hown1 hgrow1 hgrow2
      refine (HH.out.sum _ _ _ _ _ hn6 hs6 HL6.out).mono ?_
      rintro e w7 ⟨rfl, hb7⟩
      have HL7 := Lib.hid (HH.out.below _ _ HL6.out hb7)
      have HB7 := Lib.hid (below_then HB6.out hb7)
      go_wp2_with fail
      refine (works2_any HH.out _ HL7.out).mono ?_
      rintro e w8 ⟨rfl, hb8⟩
      go_wp2_with fail
      go_ret
      exact ⟨rfl, below_then HB7.out hb8⟩
end Go.Proofs.Ytdjpoffanfgmmaa
