/- Package crc: Table, feed, Update, Sum, Valid. -/
import Derived.Test.YtdjpoffanfgmmaaCrcArr
namespace Go.Proofs.Ytdjpoffanfgmmaa
open Go Go.RowKit

/-- What the inner loop of Table has laid up to its place m, with d the byte that is done. -/
def TabTo (d m : Nat) (f : Nat → BitVec 32) : Prop := ∀ t, t < 256 → (t % (2 * d) = 0 ∨ (t % (2 * d) = d ∧ t < 2 * d * m)) → f t = feed 0#32 (t : Int)

/-- What the outer loop has laid when k bits are done. -/
def TabDone (s : Nat) (f : Nat → BitVec 32) : Prop := ∀ t, t < 256 → t % s = 0 → f t = feed 0#32 (t : Int)

theorem pow8 : ∀ k : Fin 8, 0 < 128 / 2 ^ k.val ∧ 128 / 2 ^ k.val ≤ 128 ∧ 256 / 2 ^ k.val = 2 * (128 / 2 ^ k.val) ∧ 2 * (128 / 2 ^ k.val) * 2 ^ k.val = 256 ∧ 2 ^ k.val ≤ 128 ∧ 128 / 2 ^ (k.val + 1) = 128 / 2 ^ k.val / 2 ∧ 256 / 2 ^ (k.val + 1) = 128 / 2 ^ k.val := by
  decide

theorem tabTo_zero {d : Nat} {f : Nat → BitVec 32} (h : TabDone (2 * d) f) : TabTo d 0 f := by
  intro t ht h2
  rcases h2 with h2 | ⟨_, h2⟩
  · exact h t ht h2
  · simp at h2

theorem tabTo_succ {d m : Nat} {f : Nat → BitVec 32} (hd : 0 < d) (h : TabTo d m f) : TabTo d (m + 1) (turned f (d + 2 * d * m) (feed 0#32 ((d + 2 * d * m : Nat) : Int))) := by
  intro t ht h2
  unfold turned
  by_cases e : t = d + 2 * d * m
  · rw [if_pos e, e]
  · rw [if_neg e]
    refine h t ht ?_
    rcases h2 with h2 | ⟨h2, h3⟩
    · exact .inl h2
    · refine .inr ⟨h2, ?_⟩
      have h4 := Nat.div_add_mod t (2 * d)
      rw [h2] at h4
      generalize t / (2 * d) = q at h4
      have h5 : q ≠ m := by intro hq; subst hq; omega
      have h6 : q < m + 1 := by
        refine Nat.lt_of_mul_lt_mul_left (a := 2 * d) ?_
        omega
      have h7 : 2 * d * (q + 1) ≤ 2 * d * m := Nat.mul_le_mul_left _ (by omega)
      rw [Nat.mul_add] at h7
      omega

theorem tabTo_all {d m : Nat} {f : Nat → BitVec 32} (hd : 0 < d) (hm : 2 * d * m = 256) (h : TabTo d m f) : TabDone d f := by
  intro t ht h2
  refine h t ht ?_
  have h4 := Nat.div_add_mod t (2 * d)
  have h5 : t % (2 * d) % d = 0 := by rw [Nat.mod_mul_left_mod]; exact h2
  have h6 := Nat.mod_lt t (show 0 < 2 * d by omega)
  generalize t % (2 * d) = r at *
  obtain ⟨q, rfl⟩ := Nat.dvd_of_mod_eq_zero h5
  have h7 : q < 2 := by
    refine Nat.lt_of_mul_lt_mul_left (a := d) ?_
    omega
  rcases (show q = 0 ∨ q = 1 by omega) with rfl | rfl
  · left; rw [Nat.mul_zero]
  · right; rw [Nat.mul_one]; exact ⟨rfl, by omega⟩

set_option maxHeartbeats 1600000 in
set_option maxRecDepth 100000 in
theorem table_any (w : World) :
    Calls Try.prog 21 #[] w fun e w' => e = .returned (.agg crcTab) ∧ Below w.heap.size w w' := by
  rw [crcTab_row]
  obtain ⟨hz, hzi⟩ := zero_of_info tab_info
  rw [rowOf_zero] at hz
  have HA0 : Hid (Arr ((w.alloc (.cells (rowOf 256 fun _ => 0#32) 33)).alloc (.cells (rowOf 256 fun _ => 0#32) 33)) w.heap.size 256 33 (fun _ => 0#32)
    ∧ Arr ((w.alloc (.cells (rowOf 256 fun _ => 0#32) 33)).alloc (.cells (rowOf 256 fun _ => 0#32) 33)) (w.heap.size + 1) 256 33 (fun _ => 0#32)
    ∧ Below w.heap.size w ((w.alloc (.cells (rowOf 256 fun _ => 0#32) 33)).alloc (.cells (rowOf 256 fun _ => 0#32) 33))
    ∧ TabDone 256 (fun _ => 0#32)) := by
    have hs : (w.alloc (.cells (rowOf 256 fun _ => 0#32) 33)).heap.size = w.heap.size + 1 := Array.size_push _
    refine ⟨(arr_new w 256 33 _).alloc _, ?_, ((Below.refl w.heap.size w).alloc (Nat.le_refl _) _).alloc (by omega) _, ?_⟩
    · have := arr_new (w.alloc (.cells (rowOf 256 fun _ => 0#32) 33)) 256 33 (fun _ => 0#32)
      rwa [hs] at this
    · intro t ht h0
      have : t = 0 := by omega
      subst this
      decide
  generalize hzr : (rowOf 256 fun _ => 0#32) = z0 at *
  go_enter Try.func21, Try.ntmps21
  go_wp2_with fail
  go_loopw [2, 3] (fun x i wr => ∃ (k d : Nat) (f : Nat → BitVec 32), k ≤ 8 ∧ d = 128 / 2 ^ k ∧ x = .int .u32 ((csts k 1#32).toNat : Int) ∧ i = .int .i64 d ∧ Hid (Arr wr w.heap.size 256 33 (fun _ => 0#32) ∧ Arr wr (w.heap.size + 1) 256 33 f ∧ Below w.heap.size w wr ∧ TabDone (256 / 2 ^ k) f))
    (fun _ i _ => (intOf i).toNat)
  case atStart => exact ⟨0, 128, _, by omega, rfl, rfl, rfl, HA0⟩
  case round =>
    clear HA0
    obtain ⟨k, d, f, hk, hd, rfl, rfl, HR⟩ := hrel
    by_cases hlt : k < 8
    · obtain ⟨h1, h2, h3, h4, h5, h6, h7⟩ := pow8 ⟨k, hlt⟩
      simp only [← hd] at h1 h2 h3 h4 h6 h7
      have HM := Lib.hid h4
      have HK := Lib.hid (And.intro h3 (And.intro h6 h7))
      have HSt := Lib.hid (step_any (csts k 1#32))
      rw [← csts_succ] at HSt
      have HSp : Hid (∀ m, m < 2 ^ k → feed 0#32 ((d + 2 * d * m : Nat) : Int) = feed 0#32 ((2 * d * m : Nat) : Int) ^^^ csts (k + 1) 1#32) := by
        intro m hm
        have := feed_split ⟨k, hlt⟩ ⟨m, Nat.lt_of_lt_of_le hm h5⟩ hm
        simpa only [← hd] using this
      generalize hyd : csts (k + 1) 1#32 = y at *
      have HY := Lib.hid hyd
      clear hyd
      obtain ⟨M, hM⟩ : ∃ M, M = 2 ^ k := ⟨_, rfl⟩
      rw [← hM] at HM HSp
      obtain ⟨d2, hd2⟩ : ∃ d2, d2 = 2 * d := ⟨_, rfl⟩
      have hd2i : (2 : Int) * (d : Int) = (d2 : Int) := by omega
      have hdh : (d : Int) / 2 = ((d / 2 : Nat) : Int) := by omega
      obtain ⟨dh, hdhe⟩ : ∃ dh, dh = d / 2 := ⟨_, rfl⟩
      rw [← hdhe] at hdh
      have hdhlt : dh < d := by omega
      have HD2 := Lib.hid hd2
      have HDH := Lib.hid hdhe
      clear h3 h4 h6 h7 hd hM hd2 hdhe
      go_wp2_with (go_at_call 26; refine (HSt.out _).mono ?_; rintro e w' ⟨rfl, rfl⟩)
      obtain ⟨w5, rfl⟩ : ∃ w5, w5 = wr := ⟨_, rfl⟩
      have HR0 : Hid (Arr w5 w.heap.size 256 33 (fun _ => 0#32) ∧ Arr w5 (w.heap.size + 1) 256 33 f ∧ Below w.heap.size w w5 ∧ TabTo d 0 f) := by
        refine ⟨HR.out.1, HR.out.2.1, HR.out.2.2.1, tabTo_zero ?_⟩
        have := HR.out.2.2.2
        rwa [HK.out.1] at this
      clear HR
      go_loopw [4] (fun j wr => ∃ (m jj : Nat) (f : Nat → BitVec 32), m ≤ M ∧ jj = d2 * m ∧ j = .int .i64 jj ∧ Hid (Arr wr w.heap.size 256 33 (fun _ => 0#32) ∧ Arr wr (w.heap.size + 1) 256 33 f ∧ Below w.heap.size w wr ∧ TabTo d m f))
        (fun j _ => 256 - (intOf j).toNat)
      case atStart => exact ⟨0, 0, f, by omega, by rw [Nat.mul_zero], rfl, HR0⟩
      case round =>
        clear HR0
        obtain ⟨m, jj, f, hm, hjj, rfl, HQ⟩ := hrel
        by_cases hmM : m < M
        · have hle : d2 * (m + 1) ≤ d2 * M := Nat.mul_le_mul_left _ hmM
          have hMM := HM.out
          rw [← HD2.out] at hMM
          rw [Nat.mul_add, Nat.mul_one, ← hjj, hMM] at hle
          have hj0 : jj % (2 * d) = 0 := by rw [hjj, HD2.out, Nat.mul_mod_right]
          have hfj := HQ.out.2.2.2 jj (by omega) (.inl hj0)
          have hsp := HSp.out m hmM
          rw [← HD2.out, ← hjj] at hsp
          have hcell := HQ.out.2.1.cell jj (by omega)
          rw [hfj] at hcell
          have hx := xor_u32 (feed 0#32 (jj : Int)) y
          rw [← hsp] at hx
          obtain ⟨e, he⟩ : ∃ e, e = d + jj := ⟨_, rfl⟩
          have hei : (d : Int) + (jj : Int) = (e : Int) := by omega
          have he256 : e < 256 := by omega
          have hcell2 := HQ.out.2.1.cell e he256
          have hfr := HQ.out.2.1.frozen e
          rw [← he] at hx hsp
          have hT := tabTo_succ (by omega) HQ.out.2.2.2
          rw [← HD2.out, ← hjj, ← he] at hT
          obtain ⟨jn, hjn⟩ : ∃ jn, jn = jj + d2 := ⟨_, rfl⟩
          have hjni : (jj : Int) + (d2 : Int) = (jn : Int) := by omega
          have hjnm : jn = d2 * (m + 1) := by rw [Nat.mul_add, Nat.mul_one, ← hjj, hjn]
          have HN := Lib.hid (And.intro (HQ.out.1.setOther ⟨w.heap.size + 1, e, none⟩ (.int .u32 ((feed 0#32 (e : Int)).toNat : Int)) (by show w.heap.size ≠ w.heap.size + 1; omega))
            (And.intro (HQ.out.2.1.set e (feed 0#32 (e : Int))) (And.intro (HQ.out.2.2.1.setCell (p := ⟨w.heap.size + 1, e, none⟩) (by show w.heap.size ≤ w.heap.size + 1; omega) (.int .u32 ((feed 0#32 (e : Int)).toNat : Int))) hT)))
          generalize (feed 0#32 (e : Int)).toNat = fe at *
          generalize (feed 0#32 (jj : Int)).toNat = fj at *
          generalize (f e).toNat = fo at *
          have hjlt : jj < 256 := by omega
          have HJ := Lib.hid hjnm
          clear hle hMM hj0 hfj hsp hT hjj he hjnm hjn
          go_wp2_with fail
          go_roundw
          case rel => exact ⟨m + 1, jn, _, by omega, HJ.out, rfl, HN⟩
          case measure => simp [intOf]; omega
        · have hmM : m = M := by omega
          subst hmM
          have hMM := HM.out
          rw [← HD2.out, ← hjj] at hMM
          subst hMM
          rw [show ((256 : Nat) : Int) = 256 from rfl]
          have HN := Lib.hid (And.intro HQ.out.1 (And.intro HQ.out.2.1 (And.intro HQ.out.2.2.1 (tabTo_all (by omega) HM.out HQ.out.2.2.2))))
          clear HQ
          go_wp2_with fail
          go_roundw
          case rel => exact ⟨k + 1, dh, _, by omega, by rw [HK.out.2.1]; exact HDH.out, by rw [HY.out], by go_num, HN.out.1, HN.out.2.1, HN.out.2.2.1, by rw [HK.out.2.2]; exact HN.out.2.2.2⟩
          case measure => simp [intOf]; omega
    · have hk8 : k = 8 := by omega
      subst hk8
      have hd0 : d = 0 := hd
      subst hd0
      have hTd : TabDone 1 f := HR.out.2.2.2
      rw [show ((0 : Nat) : Int) = 0 from rfl]
      have HE : Hid (Arr (wr.setRow w.heap.size (rowOf 256 f)) w.heap.size 256 33 (fun i => feed 0#32 (i : Int)) ∧ Below w.heap.size w (wr.setRow w.heap.size (rowOf 256 f))) :=
        ⟨(HR.out.1.row f).congr (fun i hi => hTd i hi (Nat.mod_one i)), below_row HR.out.2.2.1 _ _ (Nat.le_refl _)⟩
      clear hTd
      go_wp2_with (first
        | (refine wpList_load_row rfl 33 _ rfl (w.heap.size + 1) rfl _ _ _ _ HR.out.2.1.heap Try.underlying33 rfl (by rw [hzi, rowOf_size]) ?_)
        | (refine wpList_store_row rfl 33 _ _ rfl w.heap.size _ rfl rfl _ _ HR.out.1.heap (by rw [hzi, rowOf_size]) (by rw [rowOf_size, rowOf_size]) (rowOf_one _ _) ?_))
      (try simp only [Exit.inBlock, Exit.then])
      refine bodyPost_ret (results_cell_row rfl _ _ _ _ _ _ _ rfl HE.out.1.heap Try.underlying33 rfl (by rw [hzi, rowOf_size])) rfl ?_
      exact ⟨rfl, HE.out.2⟩
end Go.Proofs.Ytdjpoffanfgmmaa
