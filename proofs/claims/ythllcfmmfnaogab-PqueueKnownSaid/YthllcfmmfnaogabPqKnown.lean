/- PqueueKnown: the walk. -/
import Derived.Test.YthllcfmmfnaogabPqKnown0
import Derived.Test.YthllcfmmfnaogabPqWorks
namespace Go.Proofs.Ythllcfmmfnaogab
open Go Go.RowKit

theorem eqlF (w : World) : (binOp .eql 33 (flV .m) (.float .f64 13826050856027422720)).run Try.prog w = .ok (.bool true) w := by kernel_rfl

theorem eqgM (p q : Operand) (w : World) : (eqGuard .eql 33 p q (flV .m) (.float .f64 13826050856027422720)).run Try.prog w = .ok () w := by kernel_rfl

theorem wrap_p (i : Nat) : IntKind.u8.wrap (255 - (i : Int) % 256) = ((255 - i % 256 : Nat) : Int) := by
  have h : ∀ j : Fin 256, IntKind.u8.wrap (255 - (j.val : Int)) = ((255 - j.val : Nat) : Int) := by decide +kernel
  have := h ⟨i % 256, Nat.mod_lt _ (by omega)⟩
  rw [show (i : Int) % 256 = ((i % 256 : Nat) : Int) by omega]
  exact this

def Kn1 (w wr : World) (b br i : Nat) : Prop := ∃ p, UF w wr w.heap.size b br p none (mP i) (mFl 0)
def Kn2 (w wr : World) (b br : Nat) (m : Nat → Option Int) (j : Nat) : Prop := ∃ p pr, UF w wr w.heap.size b br p pr m (mFl j)

set_option maxHeartbeats 6400000 in
set_option maxRecDepth 100000 in
theorem known_any (w : World) : Calls Try.prog 3 #[] w fun e w' => e = .returned (.bool true) ∧ Below w.heap.size w w' := by
  have HW := Lib.hid works4_any
  have hcells := heap_alloc_new w (Obj.cells #[Value.int .i64 0, Value.int .i64 (-1), Value.int .i64 1025] 3)
  have hA : Below w.heap.size w (w.alloc (Obj.cells #[Value.int .i64 0, Value.int .i64 (-1), Value.int .i64 1025] 3)) := (Below.refl _ _).alloc (Nat.le_refl _) _
  have HA := Lib.hid hA
  have c0 : (w.alloc (Obj.cells #[Value.int .i64 0, Value.int .i64 (-1), Value.int .i64 1025] 3)).cell? ⟨w.heap.size, 0, none⟩ = some (.int .i64 0) := by simp only [World.cell?, hcells]; rfl
  have c1 : (w.alloc (Obj.cells #[Value.int .i64 0, Value.int .i64 (-1), Value.int .i64 1025] 3)).cell? ⟨w.heap.size, 1, none⟩ = some (.int .i64 (-1)) := by simp only [World.cell?, hcells]; rfl
  have c2 : (w.alloc (Obj.cells #[Value.int .i64 0, Value.int .i64 (-1), Value.int .i64 1025] 3)).cell? ⟨w.heap.size, 2, none⟩ = some (.int .i64 1025) := by simp only [World.cell?, hcells]; rfl
  have HC := Lib.hid (And.intro c0 (And.intro c1 c2))
  clear hcells hA c0 c1 c2
  go_enter Try.func3, Try.ntmps3
  go_wp2_with fail
  obtain ⟨w1, hw1⟩ : ∃ w1, w1 = w.alloc (Obj.cells #[Value.int .i64 0, Value.int .i64 (-1), Value.int .i64 1025] 3) := ⟨_, rfl⟩
  rw [← hw1] at HC HA ⊢
  clear hw1
  go_loop [22] (fun s => ∃ k : Nat, k ≤ 3 ∧ s = .int .i64 k) (fun s => 3 - (intOf s).toNat)
  case atStart => exact ⟨0, by omega, rfl⟩
  case round =>
    obtain ⟨k, hk, rfl⟩ := hrel
    by_cases hlt : k < 3
    · obtain ⟨v, hv, hbad⟩ : ∃ v : Int, w1.cell? ⟨w.heap.size, k, none⟩ = some (.int .i64 v) ∧ (v < 1 ∨ 1024 < v) := by
        rcases (by omega : k = 0 ∨ k = 1 ∨ k = 2) with rfl | rfl | rfl
        · exact ⟨0, HC.out.1, by omega⟩
        · exact ⟨-1, HC.out.2.1, by omega⟩
        · exact ⟨1025, HC.out.2.2, by omega⟩
      have hnb := newBadI v hbad w1
      clear hbad
      go_wp2_with fail
      refine hnb.mono ?_
      rintro e W1 ⟨rfl, rfl⟩
      go_wp2_with fail
      go_round
      case rel => exact ⟨k + 1, by omega, by go_num⟩
      case measure => simp [intOf]; omega
    · obtain rfl : k = 3 := by omega
      have hn1 := newU 1024 (by omega) (by omega) w1
      have HN2 := Lib.hid (newF 3 (by omega) (by omega))
      clear hlt hk HC
      go_wp2_with fail
      refine hn1.mono ?_
      rintro e w2 ⟨rfl, hq, hb, hs⟩
      have HQ := Lib.hid (And.intro hq (And.intro hb hs))
      clear hq hb hs hn1
      go_wp2_with fail
      refine (HN2.out w2).mono ?_
      rintro e w3 ⟨rfl, hq2, hb2, hs2⟩
      have hsw : w.heap.size ≤ w1.heap.size := HA.out.size
      have HK : Hid (Kn1 w w3 w1.heap.size w2.heap.size 0) := Lib.hid (by
        obtain ⟨h1, h2, h3⟩ := HQ.out
        refine ⟨none, ?_, ?_, by omega, (fun a h => by cases h), (fun a h => by cases h), (fun a a' h => by cases h), hsw, by omega, (fun a h => by cases h), (fun a h => by cases h), HA.out.trans ((h2.mono hsw).trans (hb2.mono (by omega)))⟩
        · rw [mP_zero]; exact h1.below hb2
        · rw [mFl_zero]; exact hq2)
      clear hq2 hb2 hs2 HN2 HQ HA
      go_wp2_with fail
      go_loopw [9] (fun s wr => ∃ i : Nat, i ≤ 1024 ∧ s = .int .i64 i ∧ Hid (Kn1 w wr w1.heap.size w2.heap.size i)) (fun s _ => 1024 - (intOf s).toNat)
      case atStart => exact ⟨0, by omega, rfl, HK⟩
      case round =>
        obtain ⟨i, hi, rfl, HR⟩ := hrel
        clear HK
        by_cases hlt : i < 1024
        · obtain ⟨v, hv⟩ : ∃ v, v = 255 - i % 256 := ⟨_, rfl⟩
          have hw : IntKind.u8.wrap (255 - (i : Int) % 256) = (v : Int) := by rw [hv]; exact wrap_p i
          have HP : Hid (Calls Try.prog 7 #[.pointer (some ⟨w1.heap.size, 0, none⟩), .int .i64 (i : Nat), .int .u8 (v : Nat)] wr fun e W1 => e = .returned (.int .i64 0) ∧ Hid (Kn1 w W1 w1.heap.size w2.heap.size (i + 1))) := Lib.hid (by
            obtain ⟨p, hU⟩ := HR.out
            refine (pushU hU.u (Nat.zero_le _) hlt (mP_none i) (v : Int)).mono ?_
            rintro e W1 ⟨he, p', h1, h2, h3⟩
            rw [hv, mP_succ] at h1
            exact ⟨he, Lib.hid ⟨p', hU.uStep h1 h2 h3⟩⟩)
          clear HR hv
          go_wp2_with fail
          refine HP.out.mono ?_
          rintro e W1 ⟨rfl, HR⟩
          clear HP
          go_wp2_with fail
          go_roundw
          case rel => exact ⟨i + 1, by omega, by go_num, HR⟩
          case measure => simp [intOf]; omega
        · obtain rfl : i = 1024 := by omega
          have HX : Hid (Kn2 w wr w1.heap.size w2.heap.size (mK 0) 0) := Lib.hid (by
            obtain ⟨p, hU⟩ := HR.out
            rw [mP_all] at hU
            exact ⟨p, none, hU⟩)
          have HB1 : Hid (∀ W, Hid (Kn2 w W w1.heap.size w2.heap.size (mK 0) 0) → Calls Try.prog 7 #[.pointer (some ⟨w1.heap.size, 0, none⟩), .int .i64 1024, .int .u8 0] W fun e W1 => e = .returned (.int .i64 3) ∧ Hid (Kn2 w W1 w1.heap.size w2.heap.size (mK 0) 0)) := Lib.hid fun W h => by
            obtain ⟨p, pr, hU⟩ := h.out
            refine (pushBadU hU.u (k := 1024) (by omega) 0).mono ?_
            rintro e W1 ⟨he, rfl⟩
            exact ⟨he, h⟩
          have HF : ∀ (W : World) (j : Nat) (x : Fl), j < 3 → mFl j j = none → mSet (mFl j) j (some x) = mFl (j + 1) → Hid (Kn2 w W w1.heap.size w2.heap.size (mK 0) j) → Calls Try.prog 8 #[.pointer (some ⟨w2.heap.size, 0, none⟩), .int .i64 (j : Nat), flV x] W fun e W1 => e = .returned (.int .i64 0) ∧ Hid (Kn2 w W1 w1.heap.size w2.heap.size (mK 0) (j + 1)) := fun W j x hj hn hs h => by
            obtain ⟨p, pr, hU⟩ := h.out
            refine (pushF hU.f (Nat.zero_le _) hj hn x).mono ?_
            rintro e W1 ⟨he, pr', h1, h2, h3⟩
            rw [hs] at h1
            exact ⟨he, Lib.hid ⟨p, pr', hU.fStep h1 h2 h3⟩⟩
          have H0 : Hid (∀ W, Hid (Kn2 w W w1.heap.size w2.heap.size (mK 0) 0) → Calls Try.prog 8 #[.pointer (some ⟨w2.heap.size, 0, none⟩), .int .i64 0, .float .f64 4602678819172646912] W fun e W1 => e = .returned (.int .i64 0) ∧ Hid (Kn2 w W1 w1.heap.size w2.heap.size (mK 0) 1)) := Lib.hid fun W h => HF W 0 .h (by omega) rfl mFl_one h
          have H1 : Hid (∀ W, Hid (Kn2 w W w1.heap.size w2.heap.size (mK 0) 1) → Calls Try.prog 8 #[.pointer (some ⟨w2.heap.size, 0, none⟩), .int .i64 1, .float .f64 13826050856027422720] W fun e W1 => e = .returned (.int .i64 0) ∧ Hid (Kn2 w W1 w1.heap.size w2.heap.size (mK 0) 2)) := Lib.hid fun W h => HF W 1 .m (by omega) rfl mFl_two h
          have H2 : Hid (∀ W, Hid (Kn2 w W w1.heap.size w2.heap.size (mK 0) 2) → Calls Try.prog 8 #[.pointer (some ⟨w2.heap.size, 0, none⟩), .int .i64 2, .float .f64 4598175219545276416] W fun e W1 => e = .returned (.int .i64 0) ∧ Hid (Kn2 w W1 w1.heap.size w2.heap.size (mK 0) 3)) := Lib.hid fun W h => HF W 2 .q (by omega) rfl mFl_three h
          clear HR hlt hi HF
          obtain ⟨wA, hwA⟩ : ∃ wA, wA = wr := ⟨_, rfl⟩
          subst hwA
          go_wp2_with fail
          refine (HB1.out _ HX).mono ?_
          rintro e V1 ⟨rfl, HX⟩
          go_wp2_with fail
          refine (H0.out V1 HX).mono ?_
          rintro e V2 ⟨rfl, HX⟩
          go_wp2_with fail
          refine (H1.out V2 HX).mono ?_
          rintro e V3 ⟨rfl, HX⟩
          go_wp2_with fail
          refine (H2.out V3 HX).mono ?_
          rintro e V4 ⟨rfl, HX⟩
          clear H0 H1 H2 HB1
          go_wp2_with fail
          go_loopw [10] (fun s wr => ∃ i : Nat, i ≤ 1024 ∧ s = .int .i64 i ∧ Hid (Kn2 w wr w1.heap.size w2.heap.size (mK i) 3)) (fun s _ => 1024 - (intOf s).toNat)
          case atStart => exact ⟨0, by omega, rfl, HX⟩
          case round =>
            obtain ⟨i, hi, rfl, HR⟩ := hrel
            clear HX
            by_cases hlt : i < 1024
            · obtain ⟨j, hj⟩ : ∃ j, j = i / 4 := ⟨_, rfl⟩
              obtain ⟨r, hr⟩ : ∃ r, r = i % 4 := ⟨_, rfl⟩
              obtain ⟨d, hd⟩ : ∃ d, d = idK i := ⟨_, rfl⟩
              have hjI : (i : Int) / 4 = (j : Int) := by omega
              have hrI : (i : Int) % 4 = (r : Int) := by omega
              have hdI : ((d : Int) != 256 * (r : Int) + 255 - (j : Int)) = false := by
                rw [bne_eq_false_iff_eq, hd, hj, hr]
                unfold idK
                omega
              have hr4 : r < 4 := by omega
              have hj256 : j < 256 := by omega
              have HP : Hid (Calls Try.prog 9 #[.pointer (some ⟨w1.heap.size, 0, none⟩)] wr fun e W1 => e = .returned (.tuple #[.int .i64 (d : Nat), .int .u8 (j : Nat), .bool true]) ∧ Hid (Kn2 w W1 w1.heap.size w2.heap.size (mK (i + 1)) 3)) := Lib.hid (by
                obtain ⟨p, pr, hU⟩ := HR.out
                have hf := mK_first hlt
                rw [← hd, ← hj] at hf
                refine (popU hU.u hf).mono ?_
                rintro e W1 ⟨he, h1, h2⟩
                rw [hd, mK_succ hlt] at h1
                exact ⟨he, Lib.hid ⟨p, pr, hU.uStep h1 h2 (Head.refl _ _)⟩⟩)
              clear HR hj hr hd
              go_wp2_with fail
              refine HP.out.mono ?_
              rintro e W1 ⟨rfl, HR⟩
              clear HP
              go_wp2_with fail
              go_roundw
              case rel => exact ⟨i + 1, by omega, by go_num, HR⟩
              case measure => simp [intOf]; omega
            · obtain rfl : i = 1024 := by omega
              have HP1 : Hid (Calls Try.prog 10 #[.pointer (some ⟨w2.heap.size, 0, none⟩)] wr fun e W1 => e = .returned (.tuple #[.int .i64 1, flV .m, .bool true]) ∧ ∃ p pr, UF w W1 w.heap.size w1.heap.size w2.heap.size p pr (mK 1024) (mSet (mFl 3) 1 none)) := Lib.hid (by
                obtain ⟨p, pr, hU⟩ := HR.out
                refine (popF hU.f mFl_first).mono ?_
                rintro e W1 ⟨he, h1, h2⟩
                exact ⟨he, p, pr, hU.fStep h1 h2 (Head.refl _ _)⟩)
              have HP2 : Hid (∀ W p pr, UF w W w.heap.size w1.heap.size w2.heap.size p pr (mK 1024) (mSet (mFl 3) 1 none) → Calls Try.prog 10 #[.pointer (some ⟨w2.heap.size, 0, none⟩)] W fun e W1 => e = .returned (.tuple #[.int .i64 2, flV .q, .bool true]) ∧ Below w.heap.size w W1) := Lib.hid fun W p pr hU => by
                refine (popF hU.f mFl_next).mono ?_
                rintro e W1 ⟨he, h1, h2⟩
                exact ⟨he, (hU.fStep h1 h2 (Head.refl _ _)).low⟩
              have heq := eqlF
              have hgq := eqgM
              clear HR hlt hi
              go_wp2_with fail
              refine HP1.out.mono ?_
              rintro e V5 ⟨rfl, p, pr, hU⟩
              have HU := Lib.hid hU
              clear hU HP1
              go_wp2_with fail
              refine (HP2.out V5 p pr HU.out).mono ?_
              rintro e V6 ⟨rfl, hb6⟩
              have HB6 := Lib.hid hb6
              clear hb6 HP2 HU
              generalize flV .q = vq at *
              generalize flV .m = vm at *
              go_wp2_with fail
              refine (HW.out _).mono ?_
              rintro e V7 ⟨rfl, hb9⟩
              go_wp2_with fail
              go_ret
              exact ⟨rfl, HB6.out.trans (hb9.mono HB6.out.size)⟩
end Go.Proofs.Ythllcfmmfnaogab
