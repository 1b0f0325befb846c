/- codec.ParseHex: as stage 1 has it; Hex and ParseHex in the words of slices. -/
import Derived.Test.YtjadlianlnaomaaDoorHex6
namespace Go.Proofs.YtjadlianlnaomaaDoor
open Go Go.RowKit

/-- What ParseHex comes to. -/
def PHPost (s : ByteArray) (w : World) (e : Ending) (w' : World) : Prop :=
  Below w.heap.size w w' ∧ ((phOk (numS s) = true ∧ ∃ v, e = .returned (.tuple #[v, .int .i64 0]) ∧ w'.ownsRow w.heap.size 5 1 v (s.size / 2) ((phV (numS s)).map (Value.int .u8))) ∨ (phOk (numS s) = false ∧ e = .returned (.tuple #[.slice none 0 0, .int .i64 8])))

set_option maxHeartbeats 1600000 in
theorem ParseHex_any (s : ByteArray) (w : World) (hl : s.size ≤ 1000000) :
    Calls Tryd.prog 28 #[.string s] w (PHPost s w) := by
  by_cases hev : s.size % 2 = 0
  · obtain ⟨i0, hi, hz0, hz1, hz2⟩ := info_parts Tryd.infoB
    have hev' : ((s.size : Int) % 2 != 0) = false := by simp; omega
    go_enter Tryd.func28, Tryd.ntmps28
    go_wp2_with (at_make; refine wpList_make_own _ rfl _ _ 35 rfl w.heap.size 5 i0 (.int .u8 0) 1 Tryd.underlying35 hi hz0 hz1 _ _ _ (s.size / 2) rfl rfl (by omega) ?b2 ?b3 (Nat.le_refl _) ?_)
    case b2 => rw [hz2]; omega
    case b3 => unfold maxLen; omega
    intro w0 hown0 hgrow0
    have HBel0 := Lib.hid ((Below.refl w.heap.size w).grown hgrow0 (Nat.le_refl _) (fun k h => by cases h))
    clear hgrow0
    go_wp2
    go_loopw [4, 20] (fun v i wr => ∃ k : Nat, k ≤ s.size / 2 ∧ i = .int .i64 k ∧ wr.ownsRow w.heap.size 5 1 v k ((phV ((numS s).take (2 * k))).map (Value.int .u8)) ∧ Hid (phOk ((numS s).take (2 * k)) = true) ∧ Hid (Below w.heap.size w wr))
      (fun _ i _ => s.size / 2 - (intOf i).toNat)
    case atStart => exact ⟨0, Nat.zero_le _, rfl, ⟨by simp [phV], by have := hown0.2; simpa [phV] using this⟩, rfl, HBel0⟩
    case round =>
      obtain ⟨k, hk, rfl, hown, HOk, HBel⟩ := hrel
      by_cases hlt : k < s.size / 2
      · have hs1 : 2 * k < s.size := by omega
        have hs2 : 2 * k + 1 < s.size := by omega
        have hn1 := numS_at s (2 * k) hs1
        have hn2 := numS_at s (2 * k + 1) hs2
        have hlen : 2 * k + 1 < (numS s).length := by rw [numS_length]; exact hs2
        have r1 := s[2 * k].toNat_lt
        have r2 := s[2 * k + 1].toNat_lt
        by_cases h1 : hvOk ((numS s).getD (2 * k) 0) = true
        · by_cases h2 : hvOk ((numS s).getD (2 * k + 1) 0) = true
          · have hst := ph_step (numS s) k hlen HOk.out h1 h2
            rw [hn1] at h1 hst
            rw [hn2] at h2 hst
            have HA := Lib.hid h1
            have HB := Lib.hid h2
            have HS := Lib.hid hst
            have hv1 := hv_rng (s[2 * k].toNat : Int)
            have hv2 := hv_rng (s[2 * k + 1].toNat : Int)
            have HSh := Lib.hid (shl4_or _ _ hv1 hv2)
            clear h1 h2 hst hn1 hn2 hlen
            go_wp2_with (first
              | (go_at_call 35; refine (hexValue_any _ _ (by omega) (by omega)).mono ?_; (first | rw [HA.out] | rw [HB.out]); rintro e w' ⟨rfl, rfl⟩)
              | (at_builtin; refine wpList_append_own _ rfl _ _ 35 rfl w.heap.size 5 i0 (.int .u8 0) 1 1 Tryd.underlying35 hi hz0 hz1 hz2 rfl (by decide) _ _ _ rfl (hown.alloc _) ⟨wr.heap.size, 0, none⟩ 1 1 [.int .u8 (bits .or .u8 (hv (s[2 * k].toNat : Int) * 16) (hv (s[2 * k + 1].toNat : Int)))] rfl rfl ?c1 ?c2 ?c3 ?c4 ?c5 ?_))
            case c1 =>
              intro j u hj
              match j, hj with
              | 0, hj => simp at hj; subst hj; simp [Addr.add]
            case c2 => intro u hu; simp at hu; subst hu; rfl
            case c3 => unfold maxLen; omega
            case c4 => omega
            case c5 => have := HBel.out.size; simp; omega
            intro v' w1 hown' hgrow _
            have hrow : ∀ r, Value.ownBlock u4 = some r → w.heap.size ≤ r := fun r hr => (hown.lt r hr).1
            have HBel2 := Lib.hid ((HBel.out.alloc HBel.out.size _).grown hgrow (by have := HBel.out.size; simp; omega) hrow)
            rw [HSh.out] at hown'
            have HO := Lib.hid hown'
            clear hown' hgrow hrow hown
            go_wp2
            go_roundw
            case rel => exact ⟨k + 1, by omega, by go_num, by rw [HS.out.2, List.map_append]; exact HO.out, HS.out.1, HBel2⟩
            case measure => simp [intOf]; omega
          · have hbad := ph_bad (numS s) k hlen HOk.out (by rw [Bool.and_eq_false_iff]; right; simpa using h2)
            have h2 : hvOk ((numS s).getD (2 * k + 1) 0) = false := by simpa using h2
            rw [hn1] at h1
            rw [hn2] at h2
            have HA := Lib.hid h1
            have HB := Lib.hid h2
            have HS := Lib.hid hbad
            clear h1 h2 hbad hn1 hn2 hlen
            go_wp2_with (go_at_call 35; refine (hexValue_any _ _ (by omega) (by omega)).mono ?_; (first | rw [HA.out] | rw [HB.out]); rintro e w' ⟨rfl, rfl⟩)
            go_ret2
            exact ⟨HBel.out, Or.inr ⟨HS.out, rfl⟩⟩
        · have hbad := ph_bad (numS s) k hlen HOk.out (by rw [Bool.and_eq_false_iff]; left; simpa using h1)
          have h1 : hvOk ((numS s).getD (2 * k) 0) = false := by simpa using h1
          rw [hn1] at h1
          have HA := Lib.hid h1
          have HS := Lib.hid hbad
          clear h1 hbad hn1 hn2 hlen
          go_wp2_with (go_at_call 35; refine (hexValue_any _ _ (by omega) (by omega)).mono ?_; rw [HA.out]; rintro e w' ⟨rfl, rfl⟩)
          go_ret2
          exact ⟨HBel.out, Or.inr ⟨HS.out, rfl⟩⟩
      · have hkl : k = s.size / 2 := by omega
        have htk : (numS s).take (2 * k) = numS s := List.take_of_length_le (by rw [numS_length]; omega)
        rw [htk] at hown HOk
        rw [hkl] at hown
        clear htk
        go_wp2
        go_ret2
        exact ⟨HBel.out, Or.inl ⟨HOk.out, _, rfl, hown⟩⟩
  · have hbad : phOk (numS s) = false := by
      cases h : phOk (numS s) with
      | false => rfl
      | true => have := phOk_even _ h; rw [numS_length] at this; omega
    have hev' : ((s.size : Int) % 2 != 0) = true := by rw [bne_iff_ne]; omega
    have HS := Lib.hid hbad
    clear hbad
    go_enter Tryd.func28, Tryd.ntmps28
    go_wp2
    go_ret2
    exact ⟨Below.refl _ _, Or.inr ⟨HS.out, rfl⟩⟩
theorem Hex_c {p : Option Addr} {len cap : Nat} {xs : List Int} (w : World) (hS : Sl w p len cap xs) (hl : len ≤ 1000000) :
    Calls Tryd.prog 25 #[.slice p len cap] w fun e w' => e = .returned (.string (strI (hexI xs))) ∧ Below w.heap.size w w' :=
  Hex_any p len cap xs w hl hS.len hS.bytes hS.rng

theorem ParseHex_ok (s : ByteArray) (w : World) (hl : s.size ≤ 1000000) (hok : phOk (numS s) = true) :
    Calls Tryd.prog 28 #[.string s] w fun e w' => ∃ p n c, e = .returned (.tuple #[.slice p n c, .int .i64 0]) ∧ Sl w' p n c (phV (numS s)) ∧ Below w.heap.size w w' :=
  (ParseHex_any s w hl).mono fun e w' h => by
    obtain ⟨hb, h | h⟩ := h
    · obtain ⟨_, v, he, hown⟩ := h
      obtain ⟨p, n, c, hv, hs⟩ := sl_owns hown (phV_rng _)
      exact ⟨p, n, c, by rw [he, hv], hs, hb⟩
    · rw [hok] at h; cases h.1

theorem ParseHex_bad (s : ByteArray) (w : World) (hl : s.size ≤ 1000000) (hok : phOk (numS s) = false) :
    Calls Tryd.prog 28 #[.string s] w fun e w' => e = .returned (.tuple #[.slice none 0 0, .int .i64 8]) ∧ Below w.heap.size w w' :=
  (ParseHex_any s w hl).mono fun e w' h => by
    obtain ⟨hb, h | h⟩ := h
    · rw [hok] at h; cases h.1
    · exact ⟨h.2, hb⟩
end Go.Proofs.YtjadlianlnaomaaDoor
