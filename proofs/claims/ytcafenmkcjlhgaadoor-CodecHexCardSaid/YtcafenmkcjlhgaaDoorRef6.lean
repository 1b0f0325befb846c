/- The document's own ParseHex (drumlinref01). -/
import Derived.Test.YtcafenmkcjlhgaaDoorRef5
import Derived.Test.YtcafenmkcjlhgaaDoorMath5
namespace Go.Proofs.YtcafenmkcjlhgaaDoor
open Go Go.RowKit

theorem pair_eq (s : ByteArray) (i K : Nat) (h : i + 1 < s.size) (hK : K < 256) :
    ((s.extract i (i + 2)).toList == (digS ((K : Int) / 16) ++ digS ((K : Int) % 16)).toList) = cpair (s[i].toNat : Int) (s[i + 1].toNat : Int) K := by
  have e1 : (s.extract i (i + 2)).toList = [s[i], s[i + 1]] := by
    rw [Go.ByteArray.toList_eq]
    have hl : i + 1 < s.data.toList.length := by simpa using h
    have h1 : (s.extract i (i + 2)).data.toList = (s.data.toList.drop i).take 2 := by
      simp [ByteArray.data_extract, List.take_drop]
    rw [h1, List.drop_eq_getElem_cons (by omega), List.drop_eq_getElem_cons hl]
    rfl
  have e2 : (digS ((K : Int) / 16) ++ digS ((K : Int) % 16)).toList = [UInt8.ofNat (dgI ((K : Int) / 16)).toNat, UInt8.ofNat (dgI ((K : Int) % 16)).toNat] := by
    rw [Go.ByteArray.toList_eq]
    simp [digS, ByteArray.data_append]
  have r1 := dgI_rng (d := (K : Int) / 16) (by omega) (by omega)
  have r2 := dgI_rng (d := (K : Int) % 16) (by omega) (by omega)
  rw [e1, e2, Bool.eq_iff_iff, beq_iff_eq]
  simp only [List.cons.injEq, and_true, cpair, Bool.and_eq_true, decide_eq_true_eq]
  have key : ∀ (c : UInt8) (d : Int), 0 ≤ d → d < 256 → (c = UInt8.ofNat d.toNat ↔ (c.toNat : Int) = d) := by
    intro c d h0 h1
    constructor
    · intro h; rw [h, UInt8.toNat_ofNat']; omega
    · intro h
      apply UInt8.toNat_inj.1
      rw [UInt8.toNat_ofNat']
      omega
  rw [key _ _ r1.1 r1.2, key _ _ r2.1 r2.2]

/-- What ParseHex of the document comes to. -/
def RPHPost (s : ByteArray) (w : World) (e : Ending) (w' : World) : Prop :=
  Below w.heap.size w w' ∧ ((phOk (numS s) = true ∧ ∃ p n c, e = .returned (.tuple #[.slice p n c, .int .i64 0]) ∧ Sl w' p n c (phV (numS s))) ∨ (phOk (numS s) = false ∧ e = .returned (.tuple #[.slice none 0 0, .int .i64 8])))

theorem phF_rng (x : List Int) : ∀ y ∈ phF x, 0 ≤ y ∧ y < 256 := by
  match x with
  | [] => intro y hy; cases hy
  | [_] => intro y hy; cases hy
  | a :: b :: r =>
    intro y hy
    simp only [phF, List.mem_append] at hy
    rcases hy with hy | hy
    · split at hy
      · simp only [List.mem_cons, List.not_mem_nil, or_false] at hy
        have := hv_rng a; have := hv_rng b; omega
      · cases hy
    · exact phF_rng r y hy

set_option maxRecDepth 100000 in
set_option maxHeartbeats 1600000 in
theorem rParseHex_any (s : ByteArray) (w : World) (hl : s.size ≤ 1000000) :
    Calls Tryd.prog 18 #[.string s] w (RPHPost s w) := by
  obtain ⟨i0, hi, hz0, hz1, hz2⟩ := info_parts Tryd.info5u
  go_enter Tryd.func18, Tryd.ntmps18
  go_wp2
  go_loopw [4, 5, 6] (fun v i _ wr => ∃ j : Nat, 2 * j ≤ s.size ∧ i = .int .i64 (2 * (j : Int)) ∧ wr.ownsRow w.heap.size 5 1 v (phF ((numS s).take (2 * j))).length ((phF ((numS s).take (2 * j))).map (Value.int .u8)) ∧ Hid (Below w.heap.size w wr))
    (fun _ i _ _ => s.size - (intOf i).toNat)
  case atStart => exact ⟨0, Nat.zero_le _, rfl, by simpa [phF] using World.ownsRow_nil _ _ _ _, Below.refl _ _⟩
  case round =>
    obtain ⟨j, hj, rfl, hown, HBel⟩ := hrel
    by_cases hlt : 2 * j + 1 < s.size
    · have hlen : 2 * j + 1 < (numS s).length := by rw [numS_length]; exact hlt
      have hn1 := numS_at s (2 * j) (by omega)
      have hn2 := numS_at s (2 * j + 1) hlt
      have hst := phF_step (numS s) j hlen
      rw [hn1, hn2] at hst
      have hpe : ∀ K : Nat, K < 256 → ((s.extract (2 * j) (2 * j + 2)).toList == (digS ((K : Int) / 16) ++ digS ((K : Int) % 16)).toList) = cpair (s[2 * j].toNat : Int) (s[2 * j + 1].toNat : Int) K := fun K hK => pair_eq s (2 * j) K hlt hK
      have hml : (phF ((numS s).take (2 * j))).length ≤ s.size := by
        have h1 := phF_le ((numS s).take (2 * j))
        have h2 : ((numS s).take (2 * j)).length ≤ (numS s).length := by rw [List.length_take]; omega
        rw [numS_length] at h2
        omega
      generalize phF ((numS s).take (2 * j)) = pre at *
      generalize (s[2 * j].toNat : Int) = a at *
      generalize (s[2 * j + 1].toNat : Int) = b at *
      have HPe := Lib.hid hpe
      have HSt := Lib.hid hst
      have hij : IntKind.i64.wrap (2 * (j : Int) + 2) = 2 * (j : Int) + 2 := IntWalk.i64_in _ (by omega)
      have HIj := Lib.hid hij
      have HJ := hj
      have hlt' : 2 * (j : Int) + 1 < (s.size : Int) := by omega
      clear hpe hst hn1 hn2 hlen hij
      go_wp2
      go_loopw [4, 6] (fun v x wr' => ∃ kk : Nat, kk ≤ 256 ∧ x = .int .i64 kk ∧ wr'.ownsRow w.heap.size 5 1 v (pre ++ ins a b kk).length ((pre ++ ins a b kk).map (Value.int .u8)) ∧ Hid (Below w.heap.size w wr'))
        (fun _ x _ => 256 - (intOf x).toNat)
      case atStart => exact ⟨0, by omega, rfl, by rw [ins_zero, List.append_nil]; exact hown, HBel⟩
      case round =>
        clear hown HBel
        obtain ⟨kk, hkk, rfl, hown, HBel⟩ := hrel
        rename_i wq _
        by_cases hk : kk < 256
        · have hpk := HPe.out kk hk
          have hd1 : (digS ((kk : Int) / 16)).size ≤ 1 := Nat.le_refl 1
          have hd2 : (digS ((kk : Int) % 16)).size ≤ 1 := Nat.le_refl 1
          have hij := HIj.out
          go_wp2
          go_quiet ((go_at_call 30; exact Calls.quiet_of_same (digit_q _ _ (by omega) (by omega))))
          go_ways
          rename_i nq
          have hownz : (wr.drewN nq).ownsRow w.heap.size 5 1 u4 (pre ++ ins a b kk).length ((pre ++ ins a b kk).map (Value.int .u8)) := hown
          have HBz : Hid (Below w.heap.size w (wr.drewN nq)) := below_drewN HBel.out nq
          clear hown HBel hpk hd1 hd2 hij
          generalize wr.drewN nq = wz at *
          cases hcp : cpair a b kk with
          | true =>
            have hi2 := ins_hit hk hcp
            have hpl : (pre ++ ins a b kk).length ≤ 1000000 := by rw [hi2.1, List.append_nil]; omega
            have he : (pre ++ ins a b (kk + 1)).map (Value.int .u8) = (pre ++ ins a b kk).map (Value.int .u8) ++ [Value.int .u8 (kk : Int)] := by
              rw [hi2.1, hi2.2]; simp
            have hel : (pre ++ ins a b (kk + 1)).length = (pre ++ ins a b kk).length + 1 := by
              rw [hi2.1, hi2.2]; simp
            generalize (pre ++ ins a b kk).length = pl at *
            generalize (pre ++ ins a b kk).map (Value.int .u8) = pv at *
            have HE := Lib.hid he
            have HEl := Lib.hid hel
            clear hcp hi2 he hel
            go_wp2_with (at_builtin; refine wpList_append_own _ rfl _ _ 22 rfl w.heap.size 5 i0 (.int .u8 0) 1 1 Tryd.underlying22 hi hz0 hz1 hz2 rfl (by decide) _ _ _ rfl (hownz.alloc _) ⟨wz.heap.size, 0, none⟩ 1 1 [.int .u8 (kk : Int)] rfl rfl (by intro t u ht; match t, ht with | 0, ht => simp at ht; subst ht; simp [Addr.add]) (by intro u hu; simp at hu; subst hu; rfl) (by unfold maxLen; omega) (by omega) (by have := HBz.out.size; simp; omega) ?_; intro v' w2 hown' hgrow _)
            have hrow : ∀ r, Value.ownBlock u4 = some r → w.heap.size ≤ r := fun r hr => (hownz.lt r hr).1
            have HBel2 := Lib.hid ((HBz.out.alloc HBz.out.size _).grown hgrow (by have := HBz.out.size; simp; omega) hrow)
            have HO := Lib.hid hown'
            clear hown' hgrow hrow hownz
            go_wp2
            go_roundw
            case rel => exact ⟨kk + 1, by omega, by go_num, by rw [HE.out, HEl.out]; exact HO.out, HBel2⟩
            case measure => simp [intOf]; omega
          | false =>
            have hi2 := ins_miss hk hcp
            have HI := Lib.hid hi2
            clear hcp hi2
            go_wp2
            go_roundw
            case rel => exact ⟨kk + 1, by omega, by go_num, by rw [HI.out]; exact hownz, HBz⟩
            case measure => simp [intOf]; omega
        · have hke : kk = 256 := by omega
          subst hke
          rw [← HSt.out] at hown
          have hij := HIj.out
          go_wp2
          go_roundw
          case rel => exact ⟨j + 1, by omega, by go_num, hown, HBel⟩
          case measure => simp [intOf]; omega
    · rw [phF_last (numS s) j (by rw [numS_length]; omega) (by rw [numS_length]; omega)] at hown
      obtain ⟨p, n', c, rfl, hS⟩ := sl_owns hown (phF_rng _)
      have hnl := hS.len
      have hple := phF_le (numS s)
      rw [numS_length] at hple
      have hn1 : n' ≤ 1000000 := by omega
      by_cases hok : phOk (numS s) = true
      · have he := phF_ok _ hok
        have h2l : 2 * n' = s.size := by
          have h3 := phOk_even _ hok
          rw [← hnl]
          rw [numS_length] at h3
          have h4 : (phF (numS s)).length = s.size / 2 := by rw [he, phV_length, numS_length]
          omega
        rw [he] at hS
        have HS := Lib.hid hS
        have HOk := Lib.hid hok
        have h2i : 2 * (n' : Int) = (s.size : Int) := by omega
        clear hown he hnl hple hS hok
        go_wp2
        go_ret2
        exact ⟨HBel.out, .inl ⟨HOk.out, _, _, _, rfl, HS.out⟩⟩
      · have hok' : phOk (numS s) = false := by simpa using hok
        have h2l := phF_bad _ hok'
        rw [hnl, numS_length] at h2l
        have HOk := Lib.hid hok'
        have h2i : ¬ (2 * (n' : Int) = (s.size : Int)) := by omega
        clear hown hnl hple hS hok hok'
        go_wp2
        go_ret2
        exact ⟨HBel.out, .inr ⟨HOk.out, rfl⟩⟩
end Go.Proofs.YtcafenmkcjlhgaaDoor
