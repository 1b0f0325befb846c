/- The landed code of package value: Check, Text, Parse. -/
import Derived.Test.YtjadlianlnaomaaDoorValApi
import Derived.Test.YtjadlianlnaomaaDoorBld
import Derived.Test.YtjadlianlnaomaaDoorParseHex6
namespace Go.Proofs.YtjadlianlnaomaaDoor
open Go Go.RowKit

theorem lvCheck_any (s : ByteArray) (m : Int) (w : World) :
    Calls Tryd.prog 14 #[.string s, .int .i64 m] w fun e w' => e = .returned (.int .i64 (vCheck s.size m)) ∧ w = w' := by
  unfold vCheck
  by_cases h1 : m < 0
  · rw [if_pos (.inl h1)]
    go_enter Tryd.func14, Tryd.ntmps14
    go_wp2
    go_ret
    exact ⟨rfl, rfl⟩
  · by_cases h2 : 512 < m
    · rw [if_pos (.inr h2)]
      go_enter Tryd.func14, Tryd.ntmps14
      go_wp2
      go_ret
      exact ⟨rfl, rfl⟩
    · rw [if_neg (by omega)]
      by_cases h3 : m < (s.size : Int)
      · rw [if_pos h3]
        go_enter Tryd.func14, Tryd.ntmps14
        go_wp2
        go_ret
        exact ⟨rfl, rfl⟩
      · rw [if_neg h3]
        go_enter Tryd.func14, Tryd.ntmps14
        go_wp2
        go_ret
        exact ⟨rfl, rfl⟩

theorem lvCheck_v (s : ByteArray) (m v : Int) (w : World) (hv : vCheck s.size m = v) :
    Calls Tryd.prog 14 #[.string s, .int .i64 m] w fun e w' => e = .returned (.int .i64 v) ∧ w = w' := by
  rw [← hv]; exact lvCheck_any s m w

/-- Hex of '[]byte(s)'. -/
theorem hex_bytes (s : ByteArray) (w : World) (hl : s.size ≤ 1000000) :
    Calls Tryd.prog 25 #[.slice (some ⟨w.heap.size, 0, none⟩) s.size (grownCap w s.size 0 5)] (Lib.bytesWorld w 5 s) fun e w' => e = .returned (.string (strI (hexI (numS s)))) ∧ Below w.heap.size w w' :=
  (Hex_any _ _ _ (numS s) _ hl (numS_length s) (bytesWorld_in s w) (numS_rng s)).mono fun _ _ ⟨he, hb⟩ => ⟨he, below_then2 (bytesWorld_below s w _) hb⟩

theorem alloc_below (w : World) (o : Obj) : Below w.heap.size w (w.alloc o) := (Below.refl _ w).alloc (Nat.le_refl _) _

theorem below_to {B : Nat} {a b c : World} (h : Below B a b) (k : Below b.heap.size b c) (hB : B ≤ a.heap.size) : Below B a c := h.trans (k.mono (Nat.le_trans hB h.size))

set_option maxHeartbeats 1600000 in
set_option maxRecDepth 100000 in
theorem lvText_any (s : ByteArray) (w : World) (hl : s.size ≤ 1000000) :
    Calls Tryd.prog 16 #[.string s] w fun e w' => e = .returned (.tuple #[.string (vTextS s), .int .i64 (vTextE s)]) ∧ Below w.heap.size w w' := by
  unfold vTextS vTextE
  have hbe := isEmpty_s s
  by_cases h1 : 512 < s.size
  · rw [if_pos h1, if_pos h1]
    have HC := Lib.hid (lvCheck_v s 512 12 w (by unfold vCheck; rw [if_neg (by omega), if_pos (by omega)]))
    go_enter Tryd.func16, Tryd.ntmps16
    go_wp2_with fail
    refine HC.out.mono ?_
    rintro e w' ⟨rfl, rfl⟩
    go_wp2_with fail
    go_ret2
    exact ⟨rfl, Below.refl _ _⟩
  rw [if_neg h1, if_neg h1]
  have HC := Lib.hid (lvCheck_v s 512 0 w (by unfold vCheck; rw [if_neg (by omega), if_neg (by omega)]))
  have HN := Lib.hid (bd_new w)
  have HB0 := Lib.hid (alloc_below w (.cells #[.pointer none, .slice none 0 0] 37))
  by_cases h2 : s.size = 0
  · rw [if_pos h2]
    have hs := size_zero s h2
    subst hs
    clear h2 hl h1 hbe
    go_enter Tryd.func16, Tryd.ntmps16
    go_wp2_with fail
    refine HC.out.mono ?_
    rintro e w' ⟨rfl, rfl⟩
    go_wp2_with fail
    refine (bd_str _ [45] HN.out (by decide) (by decide) (by rfl)).mono ?_
    rintro e w1 ⟨rfl, hk1, hb1⟩
    have HK1 := Lib.hid hk1
    have HB1 := Lib.hid (HB0.out.trans hb1)
    have hcv := conv_bytes ⟨#[]⟩ w1
    clear hk1 hb1 HN HB0
    go_wp2_with fail
    refine (hex_bytes ⟨#[]⟩ w1 (by decide)).mono ?_
    rintro e w2 ⟨rfl, hb2⟩
    have HK2 := Lib.hid (HK1.out.below hb2)
    have HB2 := Lib.hid (below_to HB1.out hb2 (Nat.le_refl _))
    clear hcv hb2 HK1 HB1
    go_wp2_with fail
    refine (bd_str _ [45] HK2.out (by decide) (by decide) (by rfl)).mono ?_
    rintro e w3 ⟨rfl, hk3, hb3⟩
    have HK3 := Lib.hid hk3
    have HB3 := Lib.hid (HB2.out.trans hb3)
    clear hk3 hb3 HK2 HB2
    go_wp2_with fail
    refine (bd_string HK3.out).mono ?_
    rintro e w4 ⟨rfl, hb4⟩
    have HB4 := Lib.hid (HB3.out.trans hb4)
    clear hb4 HB3 HK3
    go_wp2_with fail
    go_ret2
    exact ⟨rfl, HB4.out⟩
  · rw [if_neg h2]
    rw [decide_eq_false h2] at hbe
    have hsz : (strI (hexI (numS s))).size ≤ 1000000000 := by rw [strI_size, hexI_length, numS_length]; omega
    have hny : [] ++ numS (strI (hexI (numS s))) = hexI (numS s) := by rw [List.nil_append, numS_strI _ (hexI_rng _ (numS_rng s))]
    have HX := Lib.hid (fun W => hex_bytes s W hl)
    have HCV := Lib.hid (conv_bytes s)
    have HSz := Lib.hid hsz
    have HNy := Lib.hid hny
    clear h2 hsz hny
    go_enter Tryd.func16, Tryd.ntmps16
    go_wp2_with fail
    refine HC.out.mono ?_
    rintro e w' ⟨rfl, rfl⟩
    obtain ⟨X, hX⟩ : ∃ X, X = w.alloc (.cells #[.pointer none, .slice none 0 0] 37) := ⟨_, rfl⟩
    have hcv : Sem.run Tryd.prog (convert 9 35 (.string s)) (w.alloc (.cells #[.pointer none, .slice none 0 0] 37)) = .ok (.slice (some ⟨X.heap.size, 0, none⟩) s.size (grownCap X s.size 0 5)) (Lib.bytesWorld X 5 s) := by rw [← hX]; exact HCV.out X
    rw [← hX] at HN HB0
    clear hX
    go_wp2_with fail
    refine (HX.out X).mono ?_
    rintro e w2 ⟨rfl, hb2⟩
    have HK2 := Lib.hid (HN.out.below hb2)
    have HB2 := Lib.hid (below_to HB0.out hb2 (Nat.le_refl _))
    clear hcv hb2 HN HB0
    go_wp2_with fail
    refine (bd_str _ _ HK2.out (by decide) HSz.out HNy.out).mono ?_
    rintro e w3 ⟨rfl, hk3, hb3⟩
    have HK3 := Lib.hid hk3
    have HB3 := Lib.hid (HB2.out.trans hb3)
    clear hk3 hb3 HK2 HB2
    go_wp2_with fail
    refine (bd_string HK3.out).mono ?_
    rintro e w4 ⟨rfl, hb4⟩
    have HB4 := Lib.hid (HB3.out.trans hb4)
    clear hb4 HB3 HK3
    go_wp2_with fail
    go_ret2
    exact ⟨rfl, HB4.out⟩

set_option maxHeartbeats 1600000 in
set_option maxRecDepth 100000 in
theorem lvParse_any (s : ByteArray) (w : World) (hl : s.size ≤ 1000000) :
    Calls Tryd.prog 18 #[.string s] w fun e w' => e = .returned (.tuple #[.string (vParse s).1, .int .i64 (vParse s).2]) ∧ Below w.heap.size w w' := by
  unfold vParse
  have hbd := beq_dash s
  have hbe := isEmpty_s s
  by_cases h1 : numS s = [45]
  · rw [if_pos h1]
    rw [decide_eq_true h1] at hbd
    clear h1 hbe
    go_enter Tryd.func18, Tryd.ntmps18
    go_wp2_with fail
    go_ret2
    exact ⟨rfl, Below.refl _ _⟩
  rw [if_neg h1]
  rw [decide_eq_false h1] at hbd
  clear h1
  by_cases h2 : s.size = 0
  · rw [if_pos (.inl h2)]
    rw [decide_eq_true h2] at hbe
    clear h2
    go_enter Tryd.func18, Tryd.ntmps18
    go_wp2_with fail
    go_ret2
    exact ⟨rfl, Below.refl _ _⟩
  rw [decide_eq_false h2] at hbe
  by_cases h3 : phOk (numS s) = false
  · rw [if_pos (.inr h3)]
    have HP := Lib.hid (ParseHex_bad s w hl h3)
    clear h2 h3
    go_enter Tryd.func18, Tryd.ntmps18
    go_wp2_with fail
    refine HP.out.mono ?_
    rintro e w1 ⟨rfl, hb1⟩
    go_wp2_with fail
    go_ret2
    exact ⟨rfl, hb1⟩
  rw [if_neg (fun h => h.elim h2 h3)]
  have h3' : phOk (numS s) = true := by simpa using h3
  have HP := Lib.hid (ParseHex_ok s w hl h3')
  have hev := phOk_even _ h3'
  rw [numS_length] at hev
  have HL : Hid ((phV (numS s)).length = s.size / 2) := by
    show _ = _
    rw [phV_length, numS_length]
  by_cases h4 : 1024 < s.size
  · rw [if_pos h4]
    have H4 := Lib.hid h4
    have HE := Lib.hid hev
    clear h2 h3 h3' hev h4
    go_enter Tryd.func18, Tryd.ntmps18
    go_wp2_with fail
    refine HP.out.mono ?_
    rintro e w1 ⟨p, n, c, rfl, hS, hb1⟩
    have hn : (512 : Int) < (n : Int) := by
      have := HL.out; have := hS.len; have := H4.out; have := HE.out; omega
    clear hS
    go_wp2_with fail
    go_ret2
    exact ⟨rfl, hb1⟩
  · rw [if_neg h4]
    have H4 := Lib.hid h4
    have H2 := Lib.hid h2
    have HE := Lib.hid hev
    clear h2 h3 h3' hev h4
    generalize phV (numS s) = l at *
    go_enter Tryd.func18, Tryd.ntmps18
    go_wp2_with fail
    refine HP.out.mono ?_
    rintro e w1 ⟨p, n, c, rfl, hS, hb1⟩
    have hn : ¬ (512 : Int) < (n : Int) := by
      have := HL.out; have := hS.len; have := H4.out; omega
    have hn0 : 0 < n := by
      have := HL.out; have := hS.len; have := H2.out; have := HE.out; omega
    have HS := Lib.hid hS
    have HB1 := Lib.hid hb1
    have HN := Lib.hid (bd_new w1)
    have HA := Lib.hid (alloc_below w1 (.cells #[.pointer none, .slice none 0 0] 37))
    have HLt : Hid (n ≤ 1000000000) := by show _ ≤ _; omega
    clear hS hb1
    go_wp2_with fail
    refine (bd_write (l := l) HN.out (fun W hW => HS.out.below (HA.out.trans hW)) hn0 (by decide) HLt.out).mono ?_
    rintro e w2 ⟨rfl, hk2, hb2⟩
    have HK2 := Lib.hid hk2
    have HB2 := Lib.hid (HA.out.trans hb2)
    clear hk2 hb2 HN HA
    go_wp2_with fail
    refine (bd_string HK2.out).mono ?_
    rintro e w3 ⟨rfl, hb3⟩
    have HB3 := Lib.hid (below_then2 HB1.out (HB2.out.trans hb3))
    clear hb3 HB2
    go_wp2_with fail
    go_ret2
    exact ⟨rfl, HB3.out⟩
end Go.Proofs.YtjadlianlnaomaaDoor
