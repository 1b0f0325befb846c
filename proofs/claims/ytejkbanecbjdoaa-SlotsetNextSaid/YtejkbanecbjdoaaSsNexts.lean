/- SlotsetNext. -/
import Derived.Test.YtejkbanecbjdoaaSsHas
namespace Go.Proofs.Ytejkbanecbjdoaa
open Go Go.RowKit

attribute [local go_sem] Oper.semAt_some

theorem ownsRow_belowS {w w' : World} {base : Nat} {e : TypeId} {size : Nat} {v : Value} {n : Nat} {xs : List Value} (h : w.ownsRow base e size v n xs) (hb : Below w.heap.size w w') : w'.ownsRow base e size v n xs := by
  refine ⟨h.1, ?_⟩
  rcases h.2 with h1 | ⟨g, cap, cur, h1, h2, h3, h4⟩
  · exact .inl h1
  · exact .inr ⟨g, cap, cur, h1, h2, (hb.block _ (Array.getElem?_eq_some_iff.1 h3).1).trans h3, h4⟩

theorem els_sorted (n : Nat) (f : Nat → Bool) : (els n f).Pairwise (· < ·) := by
  unfold els
  exact List.Pairwise.filter _ List.pairwise_lt_range

/-- From which number on the next one is looked for, behind k that were found. -/
def frm (l : List Nat) : Nat → Int
  | 0 => -4611686018427387904
  | k + 1 => (nth l k : Int) + 1

theorem nxt_frm {l : List Nat} (hs : l.Pairwise (· < ·)) (k : Nat) (hk : k ≤ l.length) : nxt l (frm l k) = l[k]? := by
  have h1 : ∀ x ∈ l.take k, ¬ frm l k ≤ (x : Int) := by
    intro x hx
    cases k with
    | zero => simp at hx
    | succ k =>
      obtain ⟨j, hj, rfl⟩ := List.getElem_of_mem hx
      rw [List.length_take] at hj
      rw [List.getElem_take]
      have hn : nth l k = l[k] := nth_at (List.getElem?_eq_getElem (by omega))
      have hle : l[j] ≤ l[k] := by
        by_cases e : j = k
        · subst e; exact Nat.le_refl _
        · exact Nat.le_of_lt (List.pairwise_iff_getElem.1 hs j k (by omega) (by omega) (by omega))
      simp only [frm, hn]
      omega
  have h2 : nxt l (frm l k) = nxt (l.drop k) (frm l k) := by
    generalize frm l k = q at h1 ⊢
    have h3 : nxt (l.take k ++ l.drop k) q = nxt (l.drop k) q := by
      unfold nxt
      rw [List.find?_append]
      have : (l.take k).find? (fun (x : Nat) => decide (q ≤ (x : Int))) = none := by
        rw [List.find?_eq_none]
        intro x hx
        simpa using h1 x hx
      rw [this]; rfl
    rwa [List.take_append_drop] at h3
  rw [h2]
  cases hx : l[k]? with
  | none => rw [List.drop_eq_nil_of_le (List.getElem?_eq_none_iff.1 hx)]; rfl
  | some x =>
    rw [drop_at hx, nxt_cons, if_pos]
    cases k with
    | zero => simp only [frm]; omega
    | succ k =>
      obtain ⟨h3, h4⟩ := List.getElem?_eq_some_iff.1 hx
      have hn : nth l k = l[k] := nth_at (List.getElem?_eq_getElem (by omega))
      have := List.pairwise_iff_getElem.1 hs k (k + 1) (by omega) (by omega) (by omega)
      simp only [frm, hn]
      omega

theorem frm_small {n : Nat} {f : Nat → Bool} (k : Nat) (hk : k ≤ (els n f).length) (hn : n ≤ 34) : frm (els n f) k ≤ 34 := by
  cases k with
  | zero => simp [frm]
  | succ k =>
    have hx : (els n f)[k]? = some (els n f)[k] := List.getElem?_eq_getElem (by omega)
    have := (els_mem hx).1
    simp only [frm, nth_at hx]
    omega

set_option maxHeartbeats 4000000 in
set_option maxRecDepth 100000 in
theorem nexts_any (size : Nat) (hsz : size < 256) (p : Option Addr) (len c : Nat) (xs : List Nat) (hlen : xs.length = len) (hcap : len ≤ c) (hc63 : c ≤ 9223372036854775807) (W : World) (hR : RdU W p xs) :
    Calls Try.prog 6 #[.int .u8 (size : Nat), .slice p len c] W fun e w' => e = .returned (.bool true) ∧ Below W.heap.size W w' := by
  by_cases hl : 200 < len
  · have h200 : (200 : Int) < (len : Int) := by omega
    have hw := works8_any W
    go_enter Try.func6, Try.ntmps6
    go_wp2_with fail
    refine hw.mono ?_
    rintro e W1 ⟨rfl, hb⟩
    go_wp2_with fail
    go_ret
    exact ⟨rfl, hb⟩
  have h200 : ¬ (200 : Int) < (len : Int) := by omega
  obtain ⟨n, hn⟩ : ∃ n, n = 1 + size % 34 := ⟨_, rfl⟩
  have hn1 : 1 ≤ n := by omega
  have hn34 : n ≤ 34 := by omega
  have hfill := filled_any size hsz p len c xs hlen (by omega) W hR
  rw [← hn] at hfill
  obtain ⟨i0, hi, hz0, hz1, hz2⟩ := info_partsS infoW
  clear hn hlen hcap hc63 hR hsz
  generalize fillF n xs = F at *
  go_enter Try.func6, Try.ntmps6
  go_wp2_with fail
  refine hfill.mono ?_
  rintro e W1 ⟨rfl, hS, hB, hb⟩
  have HS := Lib.hid hS
  have HBA := Lib.hid hB
  have HB := Lib.hid hb
  clear hS hB hb hfill hl h200
  have hll := els_length_le n F
  have HFS := Lib.hid (fun k hk => frm_small (n := n) (f := F) k hk hn34)
  have HNF := Lib.hid (nxt_frm (els_sorted n F))
  have HNX := Lib.hid (fun (i : Int) V (hV : Below W1.heap.size W1 V) => nextS i V (HS.out.below hV))
  have HSL := Lib.hid (fun V (hV : Below W1.heap.size W1 V) => slots_any _ n F hn34 V (HBA.out.below hV))
  generalize els n F = l at *
  obtain ⟨L, hL⟩ : ∃ L, L = l.length := ⟨_, rfl⟩
  have HL := Lib.hid hL
  rw [← hL] at hll
  have hLn : (L : Int) ≤ (n : Int) := by omega
  clear hL
  go_wp2_with fail
  go_loopw [7, 8, 9] (fun v q i wr => ∃ k : Nat, k ≤ L ∧ i = .int .i64 (k : Nat) ∧ q = .int .i64 (frm l k) ∧ wr.ownsRow W1.heap.size 3 1 v k ((l.take k).map fun x => Value.int .i64 (x : Nat)) ∧ Hid (Below W1.heap.size W1 wr)) (fun _ _ i _ => L + 1 - (intOf i).toNat)
  case atStart => exact ⟨0, Nat.zero_le _, rfl, rfl, by simpa using World.ownsRow_nil _ _ _ _, Below.refl _ _⟩
  case round =>
    obtain ⟨k, hk, rfl, rfl, hown, HI⟩ := hrel
    have hkn : (k : Int) ≤ (n : Int) := by omega
    have hnx := HNX.out (frm l k) wr HI.out
    rw [HNF.out k (by rw [← HL.out]; exact hk)] at hnx
    have HNX1 := Lib.hid hnx
    have HO := Lib.hid hown
    clear hnx hown
    by_cases hlt : k < L
    · obtain ⟨x, hx⟩ : ∃ x, l[k]? = some x := ⟨_, List.getElem?_eq_getElem (by rw [← HL.out]; exact hlt)⟩
      have hnx := HNX1.out
      rw [hx] at hnx
      replace hnx : Calls Try.prog 25 #[.pointer (some ⟨W.heap.size, 0, none⟩), .int .i64 (frm l k)] wr fun e w' => e = .returned (.tuple #[.int .i64 (x : Nat), .bool true]) ∧ Below wr.heap.size wr w' := hnx
      have hts := takeSucc hx
      have hfs : frm l (k + 1) = (x : Int) + 1 := by simp only [frm, nth_at hx]
      have hsm := HFS.out (k + 1) (by rw [← HL.out]; exact hlt)
      rw [hfs] at hsm
      have hx0 : (0 : Int) ≤ (x : Int) := by omega
      have HTS := Lib.hid hts
      have HFR := Lib.hid hfs
      generalize frm l k = q at *
      clear hx hts hfs HNX1
      go_wp2_with fail
      refine hnx.mono ?_
      rintro e W2 ⟨rfl, hb2⟩
      have hown := ownsRow_belowS HO.out hb2
      have hBW : Below W1.heap.size W1 W2 := HI.out.trans (hb2.mono HI.out.size)
      have hsz2 := hBW.size
      clear hnx hb2
      generalize hlk : (l.take k).map (fun x => Value.int .i64 ((x : Nat) : Int)) = zs at *
      have HZS := Lib.hid hlk
      clear hlk
      go_wp2_with (at_builtin; refine wpList_append_own _ rfl _ _ 24 rfl W1.heap.size 3 i0 (.int .i64 0) 1 8 Try.underlying24 hi hz0 hz1 hz2 rfl (by decide) _ _ _ rfl (hown.alloc _) ⟨W2.heap.size, 0, none⟩ 1 1 [.int .i64 (x : Nat)] rfl rfl (by intro t u ht; match t, ht with | 0, ht => simp at ht; subst ht; simp [Addr.add]) (by intro u hu; simp at hu; subst hu; rfl) (by unfold maxLen; omega) (by omega) (by simp; omega) ?_; intro v' w2 hown' hgrow _)
      have hrow : ∀ q, Value.ownBlock u7 = some q → W1.heap.size ≤ q := fun q hq => (hown.lt q hq).1
      have HB2 := Lib.hid ((hBW.alloc hBW.size _).grown hgrow (by simp; omega) hrow)
      have HO2 := Lib.hid hown'
      clear hown' hgrow hrow hown hBW
      go_wp2_with fail
      go_roundw
      case rel => exact ⟨k + 1, by omega, by simp, by rw [HFR.out], by rw [HTS.out, List.map_append, HZS.out]; exact HO2.out, HB2⟩
      case measure => simp [intOf]; omega
    · obtain rfl : k = L := by omega
      have hnx := HNX1.out
      rw [List.getElem?_eq_none_iff.2 (by rw [← HL.out]; exact Nat.le_refl _)] at hnx
      replace hnx : Calls Try.prog 25 #[.pointer (some ⟨W.heap.size, 0, none⟩), .int .i64 (frm l k)] wr fun e w' => e = .returned (.tuple #[.int .i64 0, .bool false]) ∧ Below wr.heap.size wr w' := hnx
      have hown := HO.out
      rw [List.take_of_length_le (by rw [HL.out]; exact Nat.le_refl _)] at hown
      have HO2 := Lib.hid hown
      generalize frm l k = q at *
      clear HNX1 hown HO
      go_wp2_with fail
      refine hnx.mono ?_
      rintro e W2 ⟨rfl, hb2⟩
      have HO3 := Lib.hid (ownsRow_belowS HO2.out hb2)
      have HBW := Lib.hid (HI.out.trans (hb2.mono HI.out.size))
      clear hnx hb2 HO2 HI
      obtain ⟨pf, cf, hv, hrd⟩ : ∃ pf cf, u7 = .slice pf k cf ∧ RdN W2 pf l := by
        have ho := HO3.out
        rcases ho.2 with ⟨h1, h2⟩ | ⟨g, cap, cur, h1, h2, h3, h4⟩
        · have hk0 : k = 0 := by simpa using h2
          have hl0 : l = [] := List.eq_nil_of_length_eq_zero (by rw [← HL.out]; exact hk0)
          subst hk0
          exact ⟨none, 0, h1, by rw [hl0]; exact RdN.nil _ _⟩
        · subst h1
          exact ⟨_, _, rfl, rd_of_row ho⟩
      subst hv
      have HRF := Lib.hid hrd
      clear hrd HO3
      go_wp2_with fail
      refine (HSL.out W2 HBW.out).mono ?_
      rintro e W3 ⟨⟨pa, ca, rfl, hra, -⟩, hb3⟩
      have HRA := Lib.hid hra
      have HRF3 := Lib.hid (HRF.out.below hb3)
      have HB3 := Lib.hid (HBW.out.trans (hb3.mono HBW.out.size))
      have hLL := HL.out
      clear hra hb3 HRF HBW
      rw [← hLL]
      clear hLL
      go_wp2_with fail
      go_loopw [13] (fun i wr => ∃ j : Nat, j ≤ k ∧ i = .int .i64 (j : Nat) ∧ Hid (Below W3.heap.size W3 wr)) (fun i _ => k - (intOf i).toNat)
      case atStart => exact ⟨0, Nat.zero_le _, rfl, Below.refl _ _⟩
      case round =>
        obtain ⟨j, hj, rfl, HJ⟩ := hrel
        by_cases hjk : j < k
        · obtain ⟨x, hx⟩ : ∃ x, l[j]? = some x := ⟨_, List.getElem?_eq_getElem (by rw [← HL.out]; exact hjk)⟩
          obtain ⟨g, o, rfl, hg, hc0⟩ := HRF3.out j x hx
          obtain ⟨g2, o2, rfl, hg2, hc2⟩ := HRA.out j x hx
          have hcf := (HJ.out.cell (p := ⟨g, o + j, none⟩) hg).trans hc0
          have hca := (HJ.out.cell (p := ⟨g2, o2 + j, none⟩) hg2).trans hc2
          have hj0 : (0 : Int) ≤ (j : Int) := by omega
          have hj1 : (j : Int) < (k : Int) := by omega
          have hxx : ((x : Int) != (x : Int)) = false := by simp
          clear hc0 hc2 hx
          go_wp2_with fail
          go_quiet (fail)
          have HN := Lib.hid (Below.drewN' nq HJ.out)
          go_wp2_with fail
          go_roundw
          case rel => exact ⟨j + 1, by omega, by simp, HN⟩
          case measure => simp [intOf]; omega
        · obtain rfl : j = k := by omega
          go_wp2_with fail
          refine (works8_any _).mono ?_
          rintro e W4 ⟨rfl, hb4⟩
          have HB4 := Lib.hid hb4
          clear hb4
          go_wp2_with fail
          go_ret
          have h13 := HB3.out.trans (HJ.out.mono HB3.out.size)
          exact ⟨rfl, HB.out.trans ((h13.trans (HB4.out.mono h13.size)).mono HB.out.size)⟩
end Go.Proofs.Ytejkbanecbjdoaa
