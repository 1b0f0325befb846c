/- SlotsetHas. -/
import Derived.Test.YtejkbanecbjdoaaSsFill
namespace Go.Proofs.Ytejkbanecbjdoaa
open Go Go.RowKit

attribute [local go_sem] Oper.semAt_some

theorem nxt_cons (x : Nat) (l : List Nat) (i : Int) : nxt (x :: l) i = if i ≤ (x : Int) then some x else nxt l i := by
  unfold nxt
  rw [List.find?_cons]
  by_cases h : i ≤ (x : Int) <;> simp [h]

theorem nxt_zero (x : Nat) (l : List Nat) : nxt (x :: l) 0 = some x := by rw [nxt_cons, if_pos (by omega)]

theorem drop_at {l : List Nat} {k x : Nat} (h : l[k]? = some x) : l.drop k = x :: l.drop (k + 1) := by
  obtain ⟨h1, h2⟩ := List.getElem?_eq_some_iff.1 h
  rw [List.drop_eq_getElem_cons h1, h2]

set_option maxHeartbeats 4000000 in
set_option maxRecDepth 100000 in
theorem has_any (size : Nat) (hsz : size < 256) (p : Option Addr) (len c : Nat) (xs : List Nat) (hlen : xs.length = len) (hcap : len ≤ c) (hc63 : c ≤ 9223372036854775807) (fr : Int) (W : World) (hR : RdU W p xs) :
    Calls Try.prog 5 #[.int .u8 (size : Nat), .slice p len c, .int .i64 fr] W fun e w' => e = .returned (.bool true) ∧ Below W.heap.size W w' := by
  by_cases hl : 200 < len
  · have h200 : (200 : Int) < (len : Int) := by omega
    have hw := works8_any W
    go_enter Try.func5, Try.ntmps5
    go_wp2_with fail
    refine hw.mono ?_
    rintro e W1 ⟨rfl, hb⟩
    go_wp2_with fail
    go_ret
    exact ⟨rfl, hb⟩
  have h200 : ¬ (200 : Int) < (len : Int) := by omega
  obtain ⟨n, hn⟩ : ∃ n, n = 1 + size % 34 := ⟨_, rfl⟩
  have hn1 : 1 ≤ n := by omega
  have hn34 : n ≤ 34 := by omega
  have hfill := filled_any size hsz p len c xs hlen (by omega) W hR
  rw [← hn] at hfill
  clear hn hlen hcap hc63 hR hsz
  generalize fillF n xs = F at *
  go_enter Try.func5, Try.ntmps5
  go_wp2_with fail
  refine hfill.mono ?_
  rintro e W1 ⟨rfl, hS, hB, hb⟩
  have HS := Lib.hid hS
  have HBA := Lib.hid hB
  have HB := Lib.hid hb
  clear hS hB hb hfill hl h200
  go_wp2_with fail
  refine (slots_any _ n F hn34 W1 HBA.out).mono ?_
  rintro e W2 ⟨⟨p2, c2, rfl, hrd, hpl⟩, hb2⟩
  have HB2 := Lib.hid hb2
  have HRD := Lib.hid hrd
  clear hpl hb2 hrd
  go_wp2_with fail
  refine (sameS W2 (HS.out.below HB2.out) HRD.out rfl).mono ?_
  rintro e W3 ⟨rfl, hb3⟩
  have HB3 := Lib.hid (HB2.out.trans (hb3.mono HB2.out.size))
  clear hb3 HB2 HRD
  go_wp2_with fail
  go_loopw [9] (fun i wr => ∃ k : Nat, k ≤ n + 2 ∧ i = .int .i64 ((k : Int) - 1) ∧ Hid (Below W1.heap.size W1 wr)) (fun i _ => n + 2 - (intOf i + 1).toNat)
  case atStart => exact ⟨0, by omega, by simp, HB3⟩
  case round =>
    obtain ⟨k, hk, rfl, HI⟩ := hrel
    by_cases h0 : k = 0
    · subst h0
      have hhas := hasOutS (HS.out.below HI.out) (((0 : Nat) : Int) - 1) (by omega)
      simp only [Int.natCast_zero, Int.zero_sub] at hhas ⊢
      have hn0 : (-1 : Int) ≤ (n : Int) := by omega
      go_wp2_with fail
      refine hhas.mono ?_
      rintro e W4 ⟨rfl, m, rfl⟩
      have HN := Lib.hid (Below.drewN' m HI.out)
      go_wp2_with fail
      go_roundw
      case rel => exact ⟨1, by omega, by simp, HN⟩
      case measure => simp [intOf]
    · obtain ⟨j, rfl⟩ : ∃ j, k = j + 1 := ⟨k - 1, by omega⟩
      have hj : (((j + 1 : Nat) : Int) - 1) = (j : Int) := by omega
      rw [hj]
      have hj0 : (0 : Int) ≤ (j : Int) := by omega
      by_cases h1 : j < n
      · have hhas := hasS (HS.out.below HI.out) j h1
        have hcell := fun m => ((HBA.out.below HI.out).below (Below.drewN' m (Below.refl _ _))).cell h1
        have hjn : (j : Int) ≤ (n : Int) := by omega
        have hjl : (j : Int) < (n : Int) := by omega
        cases hf : F j with
        | true =>
          rw [hf] at hhas
          simp only [hf] at hcell
          go_wp2_with fail
          refine hhas.mono ?_
          rintro e W4 ⟨rfl, m, rfl⟩
          have HN := Lib.hid (Below.drewN' m HI.out)
          have hcm := hcell m
          go_wp2_with fail
          go_roundw
          case rel => exact ⟨j + 2, by omega, by simp; omega, HN⟩
          case measure => simp [intOf]; omega
        | false =>
          rw [hf] at hhas
          simp only [hf] at hcell
          go_wp2_with fail
          refine hhas.mono ?_
          rintro e W4 ⟨rfl, m, rfl⟩
          have HN := Lib.hid (Below.drewN' m HI.out)
          have hcm := hcell m
          go_wp2_with fail
          go_roundw
          case rel => exact ⟨j + 2, by omega, by simp; omega, HN⟩
          case measure => simp [intOf]; omega
      · by_cases h2 : j = n
        · subst h2
          have hhas := hasOutS (HS.out.below HI.out) (j : Int) (by omega)
          go_wp2_with fail
          refine hhas.mono ?_
          rintro e W4 ⟨rfl, m, rfl⟩
          have HN := Lib.hid (Below.drewN' m HI.out)
          go_wp2_with fail
          go_roundw
          case rel => exact ⟨j + 2, by omega, by simp; omega, HN⟩
          case measure => simp [intOf]; omega
        · have hge : ¬ (j : Int) ≤ (n : Int) := by omega
          have hge2 : decide ((j : Int) ≤ (n : Int)) = false := decide_eq_false hge
          clear hj h0 h1 h2 hj0 hk
          go_wp2_with fail
          refine (slots_any _ n F hn34 wr (HBA.out.below HI.out)).mono ?_
          rintro e W5 ⟨⟨p3, c3, rfl, hrd, -⟩, hb5⟩
          have hb15 := HI.out.trans (hb5.mono HI.out.size)
          have hnext := nextS fr W5 (HS.out.below hb15)
          have hlow := fun V (hV : Below W5.heap.size W5 V) => lowestS V (HS.out.below (hb15.trans (hV.mono hb15.size)))
          have hll := els_length_le n F
          have HR3 := Lib.hid hrd
          have HB15 := Lib.hid hb15
          have HNX := Lib.hid hnext
          have HLO := Lib.hid hlow
          clear hrd hb5 hb15 hnext hlow HI HB3
          generalize els n F = l at *
          obtain ⟨L, hL⟩ : ∃ L, L = l.length := ⟨_, rfl⟩
          have HL := Lib.hid hL
          rw [← hL] at hll ⊢
          clear hL
          have hL0 : (-1 : Int) ≤ (L : Int) - 1 := by omega
          go_wp2_with fail
          go_loopw [11, 12, 13] (fun a q i wr => ∃ k : Nat, k ≤ L ∧ i = .int .i64 ((k : Int) - 1) ∧ a = .int .i64 ((nxt (l.drop k) fr).getD 0 : Nat) ∧ q = .bool (nxt (l.drop k) fr).isSome ∧ wr = W5) (fun _ _ i _ => (intOf i + 1).toNat)
          case atStart => exact ⟨L, Nat.le_refl _, rfl, by rw [List.drop_eq_nil_of_le (by rw [HL.out]; exact Nat.le_refl _)]; rfl, by rw [List.drop_eq_nil_of_le (by rw [HL.out]; exact Nat.le_refl _)]; rfl, rfl⟩
          case round =>
            obtain ⟨k, hk, rfl, rfl, rfl, hw⟩ := hrel
            obtain rfl : W5 = wr := hw.symm
            by_cases hk0 : k = 0
            · subst hk0
              simp only [Int.natCast_zero, Int.zero_sub, List.drop_zero]
              have hne : ¬ (0 : Int) ≤ -1 := by omega
              have hnx := HNX.out
              generalize hov : nxt l fr = ov at *
              have HOV := Lib.hid hov
              clear hov
              go_wp2_with fail
              refine hnx.mono ?_
              rintro e W6 ⟨rfl, hb6⟩
              have hlo := HLO.out W6 hb6
              have HB6 := Lib.hid hb6
              clear hnx hb6
              go_wp2_with fail
              cases hlc : l with
              | nil =>
                rw [hlc] at hlo
                have hLz : L = 0 := by rw [HL.out, hlc]; rfl
                subst hLz
                replace hlo : Calls Try.prog 27 #[.pointer (some ⟨W.heap.size, 0, none⟩)] W6 fun e w' => e = .returned (.tuple #[.int .i64 0, .bool false]) ∧ Below W6.heap.size W6 w' := hlo
                clear hlc
                refine hlo.mono ?_
                rintro e W7 ⟨rfl, hb7⟩
                have HB7 := Lib.hid (HB6.out.trans (hb7.mono HB6.out.size))
                clear hb7 hlo
                generalize ov.getD 0 = r
                generalize ov.isSome = q
                have hqq : (q == q) = true := by simp
                go_wp2_with fail
                refine (works8_any _).mono ?_
                rintro e W8 ⟨rfl, hb8⟩
                have HB8 := Lib.hid hb8
                clear hb8
                go_wp2_with fail
                go_ret
                exact ⟨rfl, HB.out.trans ((HB15.out.trans (HB7.out.mono HB15.out.size)).trans (HB8.out.mono (HB15.out.trans (HB7.out.mono HB15.out.size)).size) |>.mono HB.out.size)⟩
              | cons x t =>
                rw [hlc] at hlo
                have hLz : 0 < L := by rw [HL.out, hlc]; simp
                have hLI : (0 : Int) < (L : Int) := by omega
                rw [nxt_zero] at hlo
                replace hlo : Calls Try.prog 27 #[.pointer (some ⟨W.heap.size, 0, none⟩)] W6 fun e w' => e = .returned (.tuple #[.int .i64 (x : Nat), .bool true]) ∧ Below W6.heap.size W6 w' := hlo
                obtain ⟨g, o, rfl, hg, hcell⟩ := HR3.out 0 x (by rw [hlc]; rfl)
                rw [Nat.add_zero] at hcell
                have HC := Lib.hid hcell
                clear hlc hcell
                refine hlo.mono ?_
                rintro e W7 ⟨rfl, hb7⟩
                have HB7 := Lib.hid (HB6.out.trans (hb7.mono HB6.out.size))
                have hcell := (HB7.out.cell (p := ⟨g, o, none⟩) hg).trans HC.out
                clear hb7 hlo
                generalize ov.getD 0 = r
                generalize ov.isSome = q
                have hqq : (q == q) = true := by simp
                go_wp2_with fail
                refine (works8_any _).mono ?_
                rintro e W8 ⟨rfl, hb8⟩
                have HB8 := Lib.hid hb8
                clear hb8
                go_wp2_with fail
                go_ret
                exact ⟨rfl, HB.out.trans ((HB15.out.trans (HB7.out.mono HB15.out.size)).trans (HB8.out.mono (HB15.out.trans (HB7.out.mono HB15.out.size)).size) |>.mono HB.out.size)⟩
            · obtain ⟨j, rfl⟩ : ∃ j, k = j + 1 := ⟨k - 1, by omega⟩
              have hj : (((j + 1 : Nat) : Int) - 1) = (j : Int) := by omega
              rw [hj]
              obtain ⟨x, hx⟩ : ∃ x, l[j]? = some x := ⟨_, List.getElem?_eq_getElem (by rw [← HL.out]; omega)⟩
              obtain ⟨g, o, rfl, hg, hcell⟩ := HR3.out j x hx
              have hnc : nxt (l.drop j) fr = if fr ≤ (x : Int) then some x else nxt (l.drop (j + 1)) fr := by rw [drop_at hx, nxt_cons]
              have hj0 : (0 : Int) ≤ (j : Int) := by omega
              have hjL : (j : Int) < (L : Int) := by omega
              have HNC := Lib.hid hnc
              generalize hov : nxt (l.drop (j + 1)) fr = ov at *
              have HOV := Lib.hid hov
              clear hx hnc hov hj
              by_cases hle : fr ≤ (x : Int)
              · have hd : decide (fr ≤ (x : Int)) = true := decide_eq_true hle
                have hnc := HNC.out
                rw [if_pos hle] at hnc
                have HN := Lib.hid hnc
                clear hnc
                go_wp2_with fail
                go_roundw
                case rel => exact ⟨j, by omega, rfl, by rw [HN.out]; rfl, by rw [HN.out]; rfl, by first | rfl | trivial⟩
                case measure => simp [intOf]
              · have hd : decide (fr ≤ (x : Int)) = false := decide_eq_false hle
                have hnc := HNC.out
                rw [if_neg hle] at hnc
                have HN := Lib.hid hnc
                clear hnc hle
                go_wp2_with fail
                go_roundw
                case rel => exact ⟨j, by omega, rfl, by rw [HN.out], by rw [HN.out], by first | rfl | trivial⟩
                case measure => simp [intOf]
end Go.Proofs.Ytejkbanecbjdoaa
