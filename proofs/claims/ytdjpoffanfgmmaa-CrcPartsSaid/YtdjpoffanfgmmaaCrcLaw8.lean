/- CrcParts: the walk, over the contracts of package crc. -/
import Derived.Test.YtdjpoffanfgmmaaCrcLaw5
import Derived.Test.YtdjpoffanfgmmaaSlices2
namespace Go.Proofs.Ytdjpoffanfgmmaa
open Go Go.RowKit

/-- The first k byte strings, one behind the other. -/
def joined (X : Nat → List Int) : Nat → List Int
  | 0 => []
  | k + 1 => joined X k ++ X k

theorem joined_rng (X : Nat → List Int) (len : Nat) (h : ∀ r, r < len → ∀ y ∈ X r, 0 ≤ y ∧ y < 256) (k : Nat) (hk : k ≤ len) : ∀ y ∈ joined X k, 0 ≤ y ∧ y < 256 := by
  induction k with
  | zero => intro y hy; cases hy
  | succ k ih =>
    intro y hy
    rcases List.mem_append.1 hy with hy | hy
    · exact ih (by omega) y hy
    · exact h k (by omega) y hy

theorem joined_len (X : Nat → List Int) (Ls : Nat → Nat) (k : Nat) (h : ∀ r, r < k → (X r).length = Ls r ∧ Ls r ≤ 200) : (joined X k).length ≤ 200 * k := by
  induction k with
  | zero => exact Nat.le_refl _
  | succ k ih =>
    have h1 := ih (fun r hr => h r (by omega))
    have h2 := h k (by omega)
    show (joined X k ++ X k).length ≤ _
    rw [List.length_append]
    omega

/-- A world in which all stands that the first loop reads. -/
structure PrtG (L : World → Prop) (w : World) (p : Option Addr) (len cap : Nat) (A : Nat → Option Addr) (Ls C : Nat → Nat) (X : Nat → List Int) (v : Value) (k : Nat) (W : World) : Prop where
  l : L W
  b : Below w.heap.size w W
  m : Mat W p len cap A Ls C X
  own : W.ownsRow w.heap.size 5 1 v (joined X k).length ((joined X k).map (Value.int .u8))

theorem PrtG.step {L : World → Prop} (H : CrcOk L) {w : World} {p : Option Addr} {len cap : Nat} {A : Nat → Option Addr} {Ls C : Nat → Nat} {X : Nat → List Int} {v : Value} {k : Nat} {W W' : World} (h : PrtG L w p len cap A Ls C X v k W) (hb : Below W.heap.size W W') : PrtG L w p len cap A Ls C X v k W' :=
  ⟨H.below _ _ h.l hb, h.b.trans (hb.mono h.b.size), h.m.below hb, owns_below h.own hb⟩

set_option maxHeartbeats 12800000 in
set_option maxRecDepth 100000 in
theorem crcParts_mat {L : World → Prop} (H : CrcOk L) (p : Option Addr) (len cap : Nat) (A : Nat → Option Addr) (Ls C : Nat → Nat) (X : Nat → List Int) (w : World) (h : L w) (hM : Mat w p len cap A Ls C X) :
    Calls Try.prog 7 #[.slice p len cap] w fun e w' => e = .returned (.bool true) ∧ Below w.heap.size w w' := by
  have HH := Lib.hid H
  have HL := Lib.hid h
  have HM := Lib.hid hM
  have hle := hM.le
  have hlim := hM.lim
  unfold maxLen at hlim
  clear H h hM
  obtain ⟨i0, hi, hi0, hi1, hi2⟩ := info_parts Try.info8u
  by_cases hbig : 20 < len
  · go_enter Try.func7, Try.ntmps7
    go_wp2_with fail
    refine (works2_any HH.out _ HL.out).mono ?_
    rintro e w1 ⟨rfl, hb⟩
    go_wp2_with fail
    go_ret
    exact ⟨rfl, hb⟩
  · go_enter Try.func7, Try.ntmps7
    go_wp2_with fail
    have HG0 : Hid (PrtG L w p len cap A Ls C X (.slice none 0 0) 0 w ∧ ∀ r, r < 0 → Ls r ≤ 200) := ⟨⟨HL.out, Below.refl _ _, HM.out, World.ownsRow_nil _ _ _ _⟩, fun r hr => by omega⟩
    have hc0 : crcU 0#32 (joined X 0) = 0#32 := by show crcU 0#32 [] = 0#32; decide
    go_loopw [3, 4, 5, 6] (fun va vu vl vi wr => ∃ k : Nat, k ≤ len ∧ vi = .int .i64 k ∧ vu = .int .u32 ((crcU 0#32 (joined X k)).toNat : Int) ∧ vl = .int .u32 ((crcU 0#32 (joined X k)).toNat : Int) ∧ Hid (PrtG L w p len cap A Ls C X va k wr ∧ ∀ r, r < k → Ls r ≤ 200))
      (fun _ _ _ vi _ => len - (intOf vi).toNat)
    case atStart => exact ⟨0, by omega, rfl, by rw [hc0]; rfl, by rw [hc0]; rfl, HG0⟩
    case round =>
      clear HG0
      obtain ⟨k, hk, rfl, rfl, rfl, HR⟩ := hrel
      by_cases hlt : k < len
      · obtain ⟨b, o, rfl, hcw⟩ := HM.out.row k hlt
        have HCW : Hid (∀ W, Below w.heap.size w W → W.cell? ⟨b, o + k, none⟩ = some (.slice (A k) (Ls k) (C k))) := fun W hb => (hb.cell (p := ⟨b, o + k, none⟩) (World.block_lt_of_cell? w _ hcw)).trans hcw
        have hc := HCW.out _ HR.out.1.b
        clear hcw
        have hrow := HM.out.sl k hlt
        have HJ : Hid ((joined X k).length ≤ 200 * k) := joined_len X Ls k (fun r hr => ⟨(HM.out.sl r (by omega)).len, HR.out.2 r hr⟩)
        have hrc := hrow.cap
        by_cases hL2 : 200 < Ls k
        · go_wp2_with fail
          refine (works2_any HH.out _ HR.out.1.l).mono ?_
          rintro e w1 ⟨rfl, hb⟩
          go_wp2_with fail
          go_ret
          exact ⟨rfl, HR.out.1.b.trans (hb.mono HR.out.1.b.size)⟩
        · go_wp2_with (at_builtin; refine wpList_append_sl rfl _ _ 22 rfl w.heap.size 5 i0 Try.underlying22 hi hi0 hi1 hi2 _ _ _ rfl HR.out.1.own (A k) (Ls k) (C k) (X k) rfl (HR.out.1.m.sl k hlt) (by have := HJ.out; omega) HR.out.1.b.size ?_; intro v2 w2 hown2 hkeep2; have HB2 := Lib.hid (hkeep2 _ _ HR.out.1.b (Nat.le_refl _)); have hc2 := HCW.out _ HB2.out)
          have hlen : (joined X (k + 1)).length = (joined X k).length + Ls k := by
            show (joined X k ++ X k).length = _
            rw [List.length_append, (HM.out.sl k hlt).len]
          have hG : PrtG L w (some ⟨b, o, none⟩) len cap A Ls C X v2 (k + 1) w2 := ⟨HH.out.below _ _ HL.out HB2.out, HB2.out, HM.out.below HB2.out, by rw [hlen]; exact hown2⟩
          have hU := crcU_append 0#32 (joined X k) (X k)
          have hCm := crcU_comb (joined X k) (X k)
          rw [(HM.out.sl k hlt).len] at hCm
          obtain ⟨G, hGd⟩ : ∃ G, G = PrtG L w (some ⟨b, o, none⟩) len cap A Ls C X v2 (k + 1) := ⟨_, rfl⟩
          rw [← hGd] at hG
          have GC : Hid (∀ W, G W → W.cell? ⟨b, o + k, none⟩ = some (.slice (A k) (Ls k) (C k))) := by
            intro W hg; rw [hGd] at hg; exact HCW.out W hg.b
          have SU : Hid (∀ W, G W → Calls Try.prog 17 #[.int .u32 ((crcU 0#32 (joined X k)).toNat : Int), .slice (A k) (Ls k) (C k)] W fun e W' => e = .returned (.int .u32 ((crcU 0#32 (joined X (k + 1))).toNat : Int)) ∧ G W') := by
            intro W hg; rw [hGd] at hg ⊢
            refine (HH.out.upd (crcU 0#32 (joined X k)) _ _ _ _ W (by omega) (hg.m.sl k hlt) hg.l).mono fun e W' ⟨he, hb⟩ => ⟨?_, hg.step HH.out hb⟩
            rw [he, ← hU]; rfl
          have SS : Hid (∀ W, G W → Calls Try.prog 15 #[.slice (A k) (Ls k) (C k)] W fun e W' => e = .returned (.int .u32 ((crcU 0#32 (X k)).toNat : Int)) ∧ G W') := by
            intro W hg; rw [hGd] at hg ⊢
            exact (HH.out.sum _ _ _ _ W (by omega) (hg.m.sl k hlt) hg.l).mono fun e W' ⟨he, hb⟩ => ⟨he, hg.step HH.out hb⟩
          have SC : Hid (∀ W, G W → Calls Try.prog 19 #[.int .u32 ((crcU 0#32 (joined X k)).toNat : Int), .int .u32 ((crcU 0#32 (X k)).toNat : Int), .int .i64 (Ls k : Nat)] W fun e W' => e = .returned (.tuple #[.int .u32 ((crcU 0#32 (joined X (k + 1))).toNat : Int), .int .i64 0]) ∧ G W') := by
            intro W hg; rw [hGd] at hg ⊢
            refine (HH.out.comb (crcU 0#32 (joined X k)) (crcU 0#32 (X k)) (Ls k) W (by omega) hg.l).mono fun e W' ⟨he, hb⟩ => ⟨?_, hg.step HH.out hb⟩
            rw [he, hCm]; rfl
          have GD : Hid (∀ W, G W → G W.drew) := by
            intro W hg; rw [hGd] at hg ⊢; exact hg.step HH.out (Below.refl _ _).drew
          have GE : Hid (∀ W, G W → PrtG L w (some ⟨b, o, none⟩) len cap A Ls C X v2 (k + 1) W) := by
            intro W hg; rw [hGd] at hg; exact hg
          have HLs : Hid (∀ r, r < k + 1 → Ls r ≤ 200) := fun r hr => by
            by_cases h : r < k
            · exact HR.out.2 r h
            · have : r = k := by omega
              subst this; omega
          clear hU hCm hGd hown2 hkeep2 HR hlen hc hrow
          generalize (crcU 0#32 (joined X k)).toNat = uk at *
          generalize (crcU 0#32 (X k)).toNat = xk at *
          refine (SU.out _ hG).mono ?_
          rintro e w3 ⟨rfl, hg3⟩
          have hc3 := GC.out _ hg3
          have hg3d := GD.out _ hg3
          clear hc2 hG
          go_wp2_with fail
          have hc3d : w3.drew.cell? ⟨b, o + k, none⟩ = some (.slice (A k) (Ls k) (C k)) := hc3
          go_region_with (first
            | (go_at_call 15; refine (SS.out _ (by assumption)).mono ?_; rintro e w' ⟨rfl, hg4⟩; have hc4 := GC.out _ hg4)
            | (go_at_call 19; refine (SC.out _ (by assumption)).mono ?_; rintro e w' ⟨rfl, hg5⟩; have hc5 := GC.out _ hg5))
          all_goals
            go_wp2_with fail
            refine ⟨⟨k + 1, by omega, by go_num, rfl, rfl, GE.out _ hg5, HLs.out⟩, ?_⟩
            simp [intOf]
            omega
      · have hkl : k = len := by omega
        subst hkl
        have HJ : Hid ((joined X k).length ≤ 200 * k) := joined_len X Ls k (fun r hr => ⟨(HM.out.sl r hr).len, HR.out.2 r hr⟩)
        have HRg : Hid (∀ y ∈ joined X k, 0 ≤ y ∧ y < 256) := joined_rng X k (fun r hr => (HM.out.sl r hr).rng) k (Nat.le_refl _)
        obtain ⟨pa, na, ca, rfl, _⟩ := sl_owns HR.out.1.own HRg.out
        have HSl : Hid (∀ W, PrtG L w p k cap A Ls C X (.slice pa na ca) k W → Sl W pa na ca (joined X k)) := by
          intro W hg
          obtain ⟨p', n', c', hv, hs'⟩ := sl_owns hg.own HRg.out
          cases hv
          exact hs'
        have HLs : Hid (∀ r, r < k → Ls r ≤ 200) := HR.out.2
        have HG1 : Hid (PrtG L w p k cap A Ls C X (.slice pa na ca) k wr ∧ joined X k = joined X k ++ []) := ⟨HR.out.1, by rw [List.append_nil]⟩
        obtain ⟨w5, rfl⟩ : ∃ w5, w5 = wr := ⟨_, rfl⟩
        have hc1 : crcU 0#32 ([] : List Int) = 0#32 := by decide
        clear HR hc0
        go_wp2_with fail
        go_loopw [9, 10, 11] (fun vr vn vi wr => ∃ (j : Nat) (z : Int) (T : List Int), j ≤ k ∧ z = (j : Int) - 1 ∧ vi = .int .i64 z ∧ vr = .int .u32 ((crcU 0#32 T).toNat : Int) ∧ vn = .int .i64 T.length ∧ Hid (PrtG L w p k cap A Ls C X (.slice pa na ca) k wr ∧ joined X k = joined X j ++ T))
          (fun _ _ vi _ => (intOf vi + 1).toNat)
        case atStart => exact ⟨k, _, [], Nat.le_refl _, rfl, rfl, by rw [hc1]; rfl, rfl, HG1⟩
        case round =>
          clear HG1 hc1
          obtain ⟨j, z, T, hj, hz, rfl, rfl, rfl, HR⟩ := hrel
          by_cases hj0 : j = 0
          · subst hj0
            have hT : T = joined X k := HR.out.2.symm
            subst hT
            have hzn : z < 0 := by omega
            clear hz
            have HS := Lib.hid (HSl.out _ HR.out.1)
            have hna : na ≤ 1000000 := by have := HS.out.len; have := HJ.out; omega
            go_wp2_with fail
            refine (HH.out.sum pa na ca _ _ hna HS.out HR.out.1.l).mono ?_
            rintro e w6 ⟨rfl, hb6⟩
            have hg6 := HR.out.1.step HH.out hb6
            have HG6 := Lib.hid hg6
            have HS6 := Lib.hid (HSl.out _ hg6)
            have HV : Hid (∀ W, PrtG L w p k cap A Ls C X (.slice pa na ca) k W → Calls Try.prog 16 #[.slice pa na ca, .int .u32 ((crcU 0#32 (joined X k)).toNat : Int)] W fun e W' => e = .returned (.bool true) ∧ Below W.heap.size W W') := by
              intro W hg
              refine (HH.out.valid (crcU 0#32 (joined X k)) pa na ca _ W hna (HSl.out _ hg) hg.l).mono fun e W' ⟨he, hb⟩ => ⟨?_, hb⟩
              rw [he]; simp
            clear hb6 HR HS hg6 hlt
            generalize (crcU 0#32 (joined X k)).toNat = jk at *
            go_wp2_with fail
            refine (HV.out _ HG6.out).mono ?_
            rintro e w7 ⟨rfl, hb7⟩
            have HG7 := Lib.hid (HG6.out.step HH.out hb7)
            clear hb7 HG6
            go_wp2_with fail
            refine (works2_any HH.out _ HG7.out.l).mono ?_
            rintro e w8 ⟨rfl, hb8⟩
            go_wp2_with fail
            go_ret
            exact ⟨rfl, HG7.out.b.trans (hb8.mono HG7.out.b.size)⟩
          · obtain ⟨q, rfl⟩ : ∃ q, j = q + 1 := ⟨j - 1, by omega⟩
            have hzq : z = (q : Int) := by omega
            subst hzq
            obtain ⟨b, o, rfl, hcw⟩ := HM.out.row q (by omega)
            have HCW : Hid (∀ W, Below w.heap.size w W → W.cell? ⟨b, o + q, none⟩ = some (.slice (A q) (Ls q) (C q))) := fun W hb => (hb.cell (p := ⟨b, o + q, none⟩) (World.block_lt_of_cell? w _ hcw)).trans hcw
            have hc := HCW.out _ HR.out.1.b
            have hL2 := HLs.out q (by omega)
            have hqk : (q : Int) < (k : Int) := by omega
            have hq0 : (0 : Int) ≤ (q : Int) := by omega
            have hlenT : (joined X k).length = (joined X (q + 1)).length + T.length := by rw [HR.out.2, List.length_append]
            have HTl : Hid (T.length ≤ 4000) := by have := HJ.out; show _ ≤ _; omega
            have HNx : Hid (joined X k = joined X q ++ (X q ++ T)) := by
              have := HR.out.2
              rwa [show joined X (q + 1) = joined X q ++ X q from rfl, List.append_assoc] at this
            have hxl := (HM.out.sl q (by omega)).len
            obtain ⟨T', hT'⟩ : ∃ T', T' = X q ++ T := ⟨_, rfl⟩
            have hTl : T'.length = T.length + Ls q := by rw [hT', List.length_append, hxl]; omega
            have hCm := crcU_comb (X q) T
            rw [← hT'] at hCm
            rw [← hT'] at HNx
            have HTL := Lib.hid hTl
            clear hcw hlenT hT' hlt hz hTl hxl hj0
            go_wp2_with fail
            refine (HH.out.sum _ _ _ _ _ (by omega) (HR.out.1.m.sl q (by omega)) HR.out.1.l).mono ?_
            rintro e w6 ⟨rfl, hb6⟩
            have HG6 := Lib.hid (HR.out.1.step HH.out hb6)
            clear hb6 HR hc
            go_wp2_with fail
            refine (HH.out.comb (crcU 0#32 (X q)) (crcU 0#32 T) T.length w6 (by have := HTl.out; omega) HG6.out.l).mono ?_
            rw [hCm]
            rintro e w7 ⟨rfl, hb7⟩
            have HG7 := Lib.hid (HG6.out.step HH.out hb7)
            have hc7 := HCW.out _ HG7.out.b
            have hsum : (T.length : Int) + (Ls q : Int) = (T'.length : Int) := by have := HTL.out; omega
            have hT4 := HTl.out
            clear hb7 HG6 hCm
            generalize htk : (crcU 0#32 T').toNat = tk at *
            have HTK := Lib.hid htk
            clear htk
            go_wp2_with fail
            go_roundw
            case rel => exact ⟨q, _, T', by omega, rfl, rfl, by rw [HTK.out], by rw [← hsum], HG7.out, HNx.out⟩
            case measure => simp [intOf]
end Go.Proofs.Ytdjpoffanfgmmaa
