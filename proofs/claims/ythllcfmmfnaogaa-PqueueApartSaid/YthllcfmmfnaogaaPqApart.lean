/- PqueueApart: the walk. -/
import Derived.Test.YthllcfmmfnaogaaPqMade
import Derived.Test.YthllcfmmfnaogaaPqWorks
namespace Go.Proofs.Ythllcfmmfnaogaa
open Go Go.RowKit

theorem xor1_all : ∀ p : Fin 256, bits .xor .u8 (p.val : Int) 1 = ((bits .xor .u8 (p.val : Int) 1).toNat : Int) ∧ (bits .xor .u8 (p.val : Int) 1).toNat ≤ 255 := by decide +kernel
theorem xor1_u8 {p : Nat} (hp : p ≤ 255) : ∃ q : Nat, bits .xor .u8 (p : Int) 1 = (q : Int) ∧ q ≤ 255 := by
  have := xor1_all ⟨p, by omega⟩
  exact ⟨_, this.1, this.2⟩
theorem wrap_u8 {u : Nat} (hu : u ≤ 255) : IntKind.u8.wrap (u : Int) = (u : Int) := by
  have : ∀ u : Fin 256, IntKind.u8.wrap (u.val : Int) = (u.val : Int) := by decide +kernel
  exact this ⟨u, by omega⟩
theorem mSet_mSet {α : Type} (m : Nat → Option α) (k : Nat) (o o' : Option α) : mSet (mSet m k o) k o' = mSet m k o' := by
  funext i
  unfold mSet
  split <;> rfl

set_option maxHeartbeats 6400000 in
set_option maxRecDepth 100000 in
theorem apart_any (size : Nat) (hsz : size ≤ 255) (a : Option Addr) (len cap : Nat) (xs : List (Bool × Nat × Nat)) (hlen : xs.length = len) (hc63 : len ≤ 9223372036854775807) (id : Int) (pr : Nat) (hpr : pr ≤ 255) (w : World) (hX : TurnsAt w w.heap.size a xs) :
    Calls Try.prog 12 #[.int .u8 (size : Nat), .slice a len cap, .int .i64 id, .int .u8 (pr : Nat)] w fun e w' => e = .returned (.bool true) ∧ Below w.heap.size w w' := by
  have hmade := made_any size hsz a len cap xs hlen hc63 w hX
  have HW := Lib.hid works4_any
  clear hX hlen
  by_cases h150 : 150 < len
  · have hd : decide ((150 : Int) < (len : Int)) = true := decide_eq_true (by omega)
    clear hmade
    go_enter Try.func12, Try.ntmps12
    go_wp2_with fail
    refine (HW.out w).mono ?_
    rintro e w1 ⟨rfl, hb⟩
    go_wp2_with fail
    go_ret
    exact ⟨rfl, hb⟩
  · have hd : decide ((150 : Int) < (len : Int)) = false := decide_eq_false (by omega)
    have hlt1 := letter_any pr hpr
    have HL := Lib.hid hlt1
    obtain ⟨q, hxq, hq⟩ := xor1_u8 hpr
    have HL2 := Lib.hid (letter_any q hq)
    generalize hn : 1 + size % 50 = n at *
    have HN := Lib.hid hn
    have hn1 : 1 ≤ n := by omega
    have hn50 : n ≤ 50 := by omega
    clear hlt1 hn h150
    go_enter Try.func12, Try.ntmps12
    go_wp2_with fail
    refine hmade.mono ?_
    rintro e w1 ⟨rfl, m, hM⟩
    have HM := Lib.hid hM
    clear hM hmade
    by_cases hin : 0 ≤ id ∧ id < (n : Int)
    · obtain ⟨k, rfl⟩ : ∃ k : Nat, id = k := ⟨id.toNat, by omega⟩
      have hkn : k < n := by omega
      clear hin
      cases hmk : m k with
      | some u =>
        have hd1 : decide ((0 : Int) ≤ (k : Int)) = true := decide_eq_true (by omega)
        have hd2 : decide ((k : Int) < (n : Int)) = true := decide_eq_true (by omega)
        have hwk := HM.out.want.cell hkn
        have HWK : Hid (∀ W1, Chg (w.heap.size + 2) w.heap.size w1 W1 → W1.cell? ⟨w.heap.size + 1, k, none⟩ = some (.int .i64 (wv (m k))) ∧ W1.frozen? ⟨w.heap.size + 1, k, none⟩ = false) := Lib.hid fun W1 hc =>
          ⟨(HM.out.queue hc).1.cell hkn, (HM.out.queue hc).1.frozen k⟩
        have hu0 : (0 : Int) ≤ (u : Int) := by omega
        have HP := Lib.hid (fun W (h : Below w1.heap.size w1 W) => pushHaveHS (HM.out.below h).q (lm_some hmk) (ltr pr))
        have HC : Hid (∀ W, Below w1.heap.size w1 W → Calls Try.prog 76 #[.pointer (some ⟨w.heap.size, 0, none⟩), .int .i64 (k : Nat), .string (ltr q)] W fun e W1 => e = .returned (.int .i64 0) ∧ Hid (Made w (W1.setCell ⟨w.heap.size + 1, k, none⟩ (.int .i64 (q : Nat))) w.heap.size n (mSet m k (some q))) ∧ Hid (W1.cell? ⟨w.heap.size + 1, k, none⟩ = some (.int .i64 (wv (m k))) ∧ W1.frozen? ⟨w.heap.size + 1, k, none⟩ = false)) := Lib.hid fun W hb => by
          refine (changeHS (HM.out.below hb).q (lm_some hmk) (ltr q)).mono ?_
          rintro e W1 ⟨he, h1, h2⟩
          exact ⟨he, Lib.hid ((HM.out.below hb).step (o := some q) h1 h2 rfl (fun p h => by cases h; exact hq)), Lib.hid (HWK.out W1 ((Chg.of_below (hb.mono HM.out.q.2.1)).trans h2))⟩
        rw [hmk] at hwk
        have hwk' : w1.cell? ⟨w.heap.size + 1, k, none⟩ = some (.int .i64 (u : Nat)) := hwk
        clear hwk HWK HM
        go_wp2_with fail
        refine (HL.out w1).mono ?_
        rintro e w2 ⟨rfl, hb2⟩
        go_wp2_with fail
        refine (HP.out w2 hb2).mono ?_
        rintro e w3 ⟨rfl, rfl⟩
        clear HP
        go_wp2_with fail
        refine (HL2.out w3).mono ?_
        rintro e w4 ⟨rfl, hb4⟩
        have hb5 := hb2.trans (hb4.mono hb2.size)
        go_wp2_with fail
        refine (HC.out w4 hb5).mono ?_
        rintro e w5 ⟨rfl, HZ, HD⟩
        obtain ⟨d0, d1⟩ := HD.out
        clear HC hb2 hb4 hb5 HD
        go_wp2_with fail
        go_loopw [15] (fun s wr => ∃ i : Nat, i ≤ n ∧ s = .int .i64 i ∧ Hid (Made w wr w.heap.size n (mSet m k (some q)))) (fun s _ => n - (intOf s).toNat)
        case atStart => exact ⟨0, by omega, rfl, HZ⟩
        case round =>
          obtain ⟨i, hi, rfl, HR⟩ := hrel
          clear HZ
          have hR := HR.out
          by_cases hlt : i < n
          · have hwc := hR.want.cell hlt
            cases hmi : (mSet m k (some q)) i with
            | none =>
              have hpn := priorityNoHS hR.q (i : Int) (fun _ => by rw [Int.toNat_natCast]; exact lm_none hmi)
              rw [hmi] at hwc
              simp only [wv] at hwc
              have hdn : decide ((0 : Int) ≤ -1) = false := rfl
              clear hR
              go_wp2_with fail
              refine hpn.mono ?_
              rintro e W1 ⟨rfl, rfl⟩
              go_wp2_with fail
              go_roundw
              case rel => exact ⟨i + 1, by omega, by go_num, HR⟩
              case measure => simp [intOf]; omega
            | some u =>
              have hu := hR.small i u hmi
              have hps := priorityHS hR.q (lm_some hmi)
              have hwu : IntKind.u8.wrap (u : Int) = (u : Int) := wrap_u8 hu
              rw [hmi] at hwc
              have hwc' : wr.cell? ⟨w.heap.size + 1, i, none⟩ = some (.int .i64 (u : Nat)) := hwc
              have hsu : ((ltr u).toList == (ltr u).toList) = true := beq_self_eq_true _
              have hu0 : (0 : Int) ≤ (u : Int) := by omega
              have HLU := Lib.hid (letter_any u hu)
              clear hR hwc
              go_wp2_with fail
              refine hps.mono ?_
              rintro e W1 ⟨rfl, rfl⟩
              go_wp2_with fail
              refine (HLU.out W1).mono ?_
              rintro e W2 ⟨rfl, hb⟩
              have HR2 := Lib.hid (HR.out.below hb)
              go_wp2_with fail
              go_roundw
              case rel => exact ⟨i + 1, by omega, by go_num, HR2⟩
              case measure => simp [intOf]; omega
          · obtain rfl : i = n := by omega
            clear hR hlt hi
            have hmq : mSet m k (some q) k = some q := by simp [mSet]
            have HR1 : Hid (Calls Try.prog 78 #[.pointer (some ⟨w.heap.size, 0, none⟩), .int .i64 (k : Nat)] wr fun e W1 => e = .returned (.tuple #[.string (ltr q), .bool true]) ∧ QHS W1 (w.heap.size + 2) w.heap.size i (mSet (lm (mSet m k (some q))) k none) ∧ Chg (w.heap.size + 2) w.heap.size wr W1) := Lib.hid (removeHS HR.out.q (lm_some hmq))
            have hnn : mSet (lm (mSet m k (some q))) k none k = none := by simp [mSet]
            have HR2 : Hid (∀ W1, QHS W1 (w.heap.size + 2) w.heap.size i (mSet (lm (mSet m k (some q))) k none) → Calls Try.prog 78 #[.pointer (some ⟨w.heap.size, 0, none⟩), .int .i64 (k : Nat)] W1 fun e W2 => e = .returned (.tuple #[.string ⟨#[]⟩, .bool false]) ∧ W2 = W1) := Lib.hid fun W1 h => removeNoHS h (k : Int) (fun _ => by rw [Int.toNat_natCast]; exact hnn)
            have HR3 : Hid (∀ W1 W2, QHS W1 (w.heap.size + 2) w.heap.size i (mSet (lm (mSet m k (some q))) k none) → Below W1.heap.size W1 W2 → Calls Try.prog 76 #[.pointer (some ⟨w.heap.size, 0, none⟩), .int .i64 (k : Nat), .string ⟨#[]⟩] W2 fun e W3 => e = .returned (.int .i64 5) ∧ W3 = W2) := Lib.hid fun W1 W2 h hb => changeNoHS (h.below hb) hkn hnn ⟨#[]⟩
            have HR4 : Hid (∀ W1 W2, QHS W1 (w.heap.size + 2) w.heap.size i (mSet (lm (mSet m k (some q))) k none) → Chg (w.heap.size + 2) w.heap.size wr W1 → Below W1.heap.size W1 W2 → Made w (W2.setCell ⟨w.heap.size + 1, k, none⟩ (.int .i64 (-1))) w.heap.size i (mSet (mSet m k (some q)) k none) ∧ W2.cell? ⟨w.heap.size + 1, k, none⟩ = some (.int .i64 (wv (mSet m k (some q) k))) ∧ W2.frozen? ⟨w.heap.size + 1, k, none⟩ = false) := Lib.hid fun W1 W2 h hc hb => by
              have hc2 := hc.trans (Chg.of_below (hb.mono h.2.1))
              exact ⟨HR.out.step (o := none) (h.below hb) hc2 rfl (fun p h => by cases h), (HR.out.queue hc2).1.cell hkn, (HR.out.queue hc2).1.frozen k⟩
            have hse : ((⟨#[]⟩ : ByteArray).toList == (⟨#[]⟩ : ByteArray).toList) = true := beq_self_eq_true _
            have hsq : ((ltr q).toList == (ltr q).toList) = true := beq_self_eq_true _
            clear HR hmq hnn
            go_wp2_with fail
            refine HR1.out.mono ?_
            rintro e W1 ⟨rfl, hq1, hc1⟩
            have HQ1 := Lib.hid (And.intro hq1 hc1)
            clear hq1 hc1 HR1
            go_wp2_with fail
            refine (HR2.out W1 HQ1.out.1).mono ?_
            rintro e W2 ⟨rfl, rfl⟩
            go_wp2_with fail
            refine (HL2.out W2).mono ?_
            rintro e W3 ⟨rfl, hb3⟩
            go_wp2_with fail
            refine (HR3.out W2 W3 HQ1.out.1 hb3).mono ?_
            rintro e W4 ⟨rfl, rfl⟩
            obtain ⟨hMz, z0, z1⟩ := HR4.out W2 W4 HQ1.out.1 HQ1.out.2 hb3
            have HMz := Lib.hid hMz
            clear hMz HR2 HR3 HR4 HQ1 hb3
            have hln := lenHS HMz.out.q
            rw [cnt_lm] at hln
            have hct := count_any HMz.out.want (by omega)
            have HLN := Lib.hid (And.intro hln hct)
            clear hln hct
            go_wp2_with fail
            refine HLN.out.1.mono ?_
            rintro e V1 ⟨rfl, rfl⟩
            go_wp2_with fail
            refine HLN.out.2.mono ?_
            rintro e V2 ⟨rfl, rfl⟩
            generalize cntW i _ = cc at *
            go_wp2_with fail
            refine (HW.out _).mono ?_
            rintro e V3 ⟨rfl, hb9⟩
            go_wp2_with fail
            go_ret
            exact ⟨rfl, HMz.out.low.trans (hb9.mono HMz.out.low.size)⟩
      | none =>
        have hd1 : decide ((0 : Int) ≤ (k : Int)) = true := decide_eq_true (by omega)
        have hd2 : decide ((k : Int) < (n : Int)) = true := decide_eq_true (by omega)
        have hwk := HM.out.want.cell hkn
        have HWK : Hid (∀ W1, Chg (w.heap.size + 2) w.heap.size w1 W1 → W1.cell? ⟨w.heap.size + 1, k, none⟩ = some (.int .i64 (wv (m k))) ∧ W1.frozen? ⟨w.heap.size + 1, k, none⟩ = false) := Lib.hid fun W1 hc =>
          ⟨(HM.out.queue hc).1.cell hkn, (HM.out.queue hc).1.frozen k⟩
        have hdn : decide ((0 : Int) ≤ -1) = false := rfl
        have HP : Hid (∀ W, Below w1.heap.size w1 W → Calls Try.prog 75 #[.pointer (some ⟨w.heap.size, 0, none⟩), .int .i64 (k : Nat), .string (ltr pr)] W fun e W1 => e = .returned (.int .i64 0) ∧ QHS W1 (w.heap.size + 2) w.heap.size n (mSet (lm m) k (some (ltr pr))) ∧ Chg (w.heap.size + 2) w.heap.size w1 W1) := Lib.hid fun W hb => by
          refine (pushHS (HM.out.below hb).q hkn (lm_none hmk) (ltr pr)).mono ?_
          rintro e W1 ⟨he, h1, h2⟩
          exact ⟨he, h1, (Chg.of_below (hb.mono HM.out.q.2.1)).trans h2⟩
        have HC : Hid (∀ W0 W, QHS W0 (w.heap.size + 2) w.heap.size n (mSet (lm m) k (some (ltr pr))) → Chg (w.heap.size + 2) w.heap.size w1 W0 → Below W0.heap.size W0 W → Calls Try.prog 76 #[.pointer (some ⟨w.heap.size, 0, none⟩), .int .i64 (k : Nat), .string (ltr q)] W fun e W1 => e = .returned (.int .i64 0) ∧ Hid (Made w (W1.setCell ⟨w.heap.size + 1, k, none⟩ (.int .i64 (q : Nat))) w.heap.size n (mSet m k (some q))) ∧ Hid (W1.cell? ⟨w.heap.size + 1, k, none⟩ = some (.int .i64 (wv (m k))) ∧ W1.frozen? ⟨w.heap.size + 1, k, none⟩ = false)) := Lib.hid fun W0 W hq0 hc hb => by
          have hc2 : Chg (w.heap.size + 2) w.heap.size w1 W := hc.trans (Chg.of_below (hb.mono hq0.2.1))
          refine (changeHS (hq0.below hb) (k := k) (u := ltr pr) (by simp [mSet]) (ltr q)).mono ?_
          rintro e W1 ⟨he, h1, h2⟩
          refine ⟨he, Lib.hid (HM.out.step (o := some q) ?_ (hc2.trans h2) rfl (fun p h => by cases h; exact hq)), Lib.hid (HWK.out W1 (hc2.trans h2))⟩
          rw [mSet_mSet] at h1
          exact h1
        rw [hmk] at hwk
        simp only [wv] at hwk
        clear HWK HM
        go_wp2_with fail
        refine (HL.out w1).mono ?_
        rintro e w2 ⟨rfl, hb2⟩
        go_wp2_with fail
        refine (HP.out w2 hb2).mono ?_
        rintro e w3 ⟨rfl, hq3, hc3⟩
        have HQ3 := Lib.hid (And.intro hq3 hc3)
        clear HP hq3 hc3 hb2
        go_wp2_with fail
        refine (HL2.out w3).mono ?_
        rintro e w4 ⟨rfl, hb4⟩
        go_wp2_with fail
        refine (HC.out w3 w4 HQ3.out.1 HQ3.out.2 hb4).mono ?_
        rintro e w5 ⟨rfl, HZ, HD⟩
        obtain ⟨d0, d1⟩ := HD.out
        clear HC hb4 HD HQ3
        go_wp2_with fail
        go_loopw [15] (fun s wr => ∃ i : Nat, i ≤ n ∧ s = .int .i64 i ∧ Hid (Made w wr w.heap.size n (mSet m k (some q)))) (fun s _ => n - (intOf s).toNat)
        case atStart => exact ⟨0, by omega, rfl, HZ⟩
        case round =>
          obtain ⟨i, hi, rfl, HR⟩ := hrel
          clear HZ
          have hR := HR.out
          by_cases hlt : i < n
          · have hwc := hR.want.cell hlt
            cases hmi : (mSet m k (some q)) i with
            | none =>
              have hpn := priorityNoHS hR.q (i : Int) (fun _ => by rw [Int.toNat_natCast]; exact lm_none hmi)
              rw [hmi] at hwc
              simp only [wv] at hwc
              have hdn : decide ((0 : Int) ≤ -1) = false := rfl
              clear hR
              go_wp2_with fail
              refine hpn.mono ?_
              rintro e W1 ⟨rfl, rfl⟩
              go_wp2_with fail
              go_roundw
              case rel => exact ⟨i + 1, by omega, by go_num, HR⟩
              case measure => simp [intOf]; omega
            | some u =>
              have hu := hR.small i u hmi
              have hps := priorityHS hR.q (lm_some hmi)
              have hwu : IntKind.u8.wrap (u : Int) = (u : Int) := wrap_u8 hu
              rw [hmi] at hwc
              have hwc' : wr.cell? ⟨w.heap.size + 1, i, none⟩ = some (.int .i64 (u : Nat)) := hwc
              have hsu : ((ltr u).toList == (ltr u).toList) = true := beq_self_eq_true _
              have hu0 : (0 : Int) ≤ (u : Int) := by omega
              have HLU := Lib.hid (letter_any u hu)
              clear hR hwc
              go_wp2_with fail
              refine hps.mono ?_
              rintro e W1 ⟨rfl, rfl⟩
              go_wp2_with fail
              refine (HLU.out W1).mono ?_
              rintro e W2 ⟨rfl, hb⟩
              have HR2 := Lib.hid (HR.out.below hb)
              go_wp2_with fail
              go_roundw
              case rel => exact ⟨i + 1, by omega, by go_num, HR2⟩
              case measure => simp [intOf]; omega
          · obtain rfl : i = n := by omega
            clear hR hlt hi
            have hmq : mSet m k (some q) k = some q := by simp [mSet]
            have HR1 : Hid (Calls Try.prog 78 #[.pointer (some ⟨w.heap.size, 0, none⟩), .int .i64 (k : Nat)] wr fun e W1 => e = .returned (.tuple #[.string (ltr q), .bool true]) ∧ QHS W1 (w.heap.size + 2) w.heap.size i (mSet (lm (mSet m k (some q))) k none) ∧ Chg (w.heap.size + 2) w.heap.size wr W1) := Lib.hid (removeHS HR.out.q (lm_some hmq))
            have hnn : mSet (lm (mSet m k (some q))) k none k = none := by simp [mSet]
            have HR2 : Hid (∀ W1, QHS W1 (w.heap.size + 2) w.heap.size i (mSet (lm (mSet m k (some q))) k none) → Calls Try.prog 78 #[.pointer (some ⟨w.heap.size, 0, none⟩), .int .i64 (k : Nat)] W1 fun e W2 => e = .returned (.tuple #[.string ⟨#[]⟩, .bool false]) ∧ W2 = W1) := Lib.hid fun W1 h => removeNoHS h (k : Int) (fun _ => by rw [Int.toNat_natCast]; exact hnn)
            have HR3 : Hid (∀ W1 W2, QHS W1 (w.heap.size + 2) w.heap.size i (mSet (lm (mSet m k (some q))) k none) → Below W1.heap.size W1 W2 → Calls Try.prog 76 #[.pointer (some ⟨w.heap.size, 0, none⟩), .int .i64 (k : Nat), .string ⟨#[]⟩] W2 fun e W3 => e = .returned (.int .i64 5) ∧ W3 = W2) := Lib.hid fun W1 W2 h hb => changeNoHS (h.below hb) hkn hnn ⟨#[]⟩
            have HR4 : Hid (∀ W1 W2, QHS W1 (w.heap.size + 2) w.heap.size i (mSet (lm (mSet m k (some q))) k none) → Chg (w.heap.size + 2) w.heap.size wr W1 → Below W1.heap.size W1 W2 → Made w (W2.setCell ⟨w.heap.size + 1, k, none⟩ (.int .i64 (-1))) w.heap.size i (mSet (mSet m k (some q)) k none) ∧ W2.cell? ⟨w.heap.size + 1, k, none⟩ = some (.int .i64 (wv (mSet m k (some q) k))) ∧ W2.frozen? ⟨w.heap.size + 1, k, none⟩ = false) := Lib.hid fun W1 W2 h hc hb => by
              have hc2 := hc.trans (Chg.of_below (hb.mono h.2.1))
              exact ⟨HR.out.step (o := none) (h.below hb) hc2 rfl (fun p h => by cases h), (HR.out.queue hc2).1.cell hkn, (HR.out.queue hc2).1.frozen k⟩
            have hse : ((⟨#[]⟩ : ByteArray).toList == (⟨#[]⟩ : ByteArray).toList) = true := beq_self_eq_true _
            have hsq : ((ltr q).toList == (ltr q).toList) = true := beq_self_eq_true _
            clear HR hmq hnn
            go_wp2_with fail
            refine HR1.out.mono ?_
            rintro e W1 ⟨rfl, hq1, hc1⟩
            have HQ1 := Lib.hid (And.intro hq1 hc1)
            clear hq1 hc1 HR1
            go_wp2_with fail
            refine (HR2.out W1 HQ1.out.1).mono ?_
            rintro e W2 ⟨rfl, rfl⟩
            go_wp2_with fail
            refine (HL2.out W2).mono ?_
            rintro e W3 ⟨rfl, hb3⟩
            go_wp2_with fail
            refine (HR3.out W2 W3 HQ1.out.1 hb3).mono ?_
            rintro e W4 ⟨rfl, rfl⟩
            obtain ⟨hMz, z0, z1⟩ := HR4.out W2 W4 HQ1.out.1 HQ1.out.2 hb3
            have HMz := Lib.hid hMz
            clear hMz HR2 HR3 HR4 HQ1 hb3
            have hln := lenHS HMz.out.q
            rw [cnt_lm] at hln
            have hct := count_any HMz.out.want (by omega)
            have HLN := Lib.hid (And.intro hln hct)
            clear hln hct
            go_wp2_with fail
            refine HLN.out.1.mono ?_
            rintro e V1 ⟨rfl, rfl⟩
            go_wp2_with fail
            refine HLN.out.2.mono ?_
            rintro e V2 ⟨rfl, rfl⟩
            generalize cntW i _ = cc at *
            go_wp2_with fail
            refine (HW.out _).mono ?_
            rintro e V3 ⟨rfl, hb9⟩
            go_wp2_with fail
            go_ret
            exact ⟨rfl, HMz.out.low.trans (hb9.mono HMz.out.low.size)⟩
    · have hk : id < 0 ∨ (n : Int) ≤ id := by omega
      rcases Int.lt_or_le id 0 with hk1 | hk1
      · have hd1 : decide (0 ≤ id) = false := decide_eq_false (by omega)
        have HP := Lib.hid (fun W (h : Below w1.heap.size w1 W) => pushBadHS (HM.out.below h).q hk (ltr pr))
        have HC := Lib.hid (fun W (h : Below w1.heap.size w1 W) => changeBadHS (HM.out.below h).q hk (ltr q))
        go_wp2_with fail
        refine (HL.out w1).mono ?_
        rintro e w2 ⟨rfl, hb2⟩
        go_wp2_with fail
        refine (HP.out w2 hb2).mono ?_
        rintro e w3 ⟨rfl, rfl⟩
        go_wp2_with fail
        refine (HL2.out w3).mono ?_
        rintro e w4 ⟨rfl, hb4⟩
        have hb5 := hb2.trans (hb4.mono hb2.size)
        go_wp2_with fail
        refine (HC.out w4 hb5).mono ?_
        rintro e w5 ⟨rfl, rfl⟩
        have HZ := Lib.hid (HM.out.below hb5)
        clear HM HP HC hb2 hb4 hb5
        go_wp2_with fail
        go_loopw [15] (fun s wr => ∃ i : Nat, i ≤ n ∧ s = .int .i64 i ∧ Hid (Made w wr w.heap.size n m)) (fun s _ => n - (intOf s).toNat)
        case atStart => exact ⟨0, by omega, rfl, HZ⟩
        case round =>
          obtain ⟨i, hi, rfl, HR⟩ := hrel
          clear HZ
          have hR := HR.out
          by_cases hlt : i < n
          · have hwc := hR.want.cell hlt
            cases hmi : m i with
            | none =>
              have hpn := priorityNoHS hR.q (i : Int) (fun _ => by rw [Int.toNat_natCast]; exact lm_none hmi)
              rw [hmi] at hwc
              simp only [wv] at hwc
              have hdn : decide ((0 : Int) ≤ -1) = false := rfl
              clear hR
              go_wp2_with fail
              refine hpn.mono ?_
              rintro e W1 ⟨rfl, rfl⟩
              go_wp2_with fail
              go_roundw
              case rel => exact ⟨i + 1, by omega, by go_num, HR⟩
              case measure => simp [intOf]; omega
            | some u =>
              have hu := hR.small i u hmi
              have hps := priorityHS hR.q (lm_some hmi)
              have hwu : IntKind.u8.wrap (u : Int) = (u : Int) := wrap_u8 hu
              rw [hmi] at hwc
              have hwc' : wr.cell? ⟨w.heap.size + 1, i, none⟩ = some (.int .i64 (u : Nat)) := hwc
              have hsu : ((ltr u).toList == (ltr u).toList) = true := beq_self_eq_true _
              have hu0 : (0 : Int) ≤ (u : Int) := by omega
              have HLU := Lib.hid (letter_any u hu)
              clear hR hwc
              go_wp2_with fail
              refine hps.mono ?_
              rintro e W1 ⟨rfl, rfl⟩
              go_wp2_with fail
              refine (HLU.out W1).mono ?_
              rintro e W2 ⟨rfl, hb⟩
              have HR2 := Lib.hid (HR.out.below hb)
              go_wp2_with fail
              go_roundw
              case rel => exact ⟨i + 1, by omega, by go_num, HR2⟩
              case measure => simp [intOf]; omega
          · obtain rfl : i = n := by omega
            clear hR hlt hi
            have hln := lenHS HR.out.q
            rw [cnt_lm] at hln
            have hct := count_any HR.out.want (by omega)
            have HLN := Lib.hid (And.intro hln hct)
            clear hln hct
            go_wp2_with fail
            refine HLN.out.1.mono ?_
            rintro e V1 ⟨rfl, rfl⟩
            go_wp2_with fail
            refine HLN.out.2.mono ?_
            rintro e V2 ⟨rfl, rfl⟩
            generalize cntW i _ = cc at *
            go_wp2_with fail
            refine (HW.out _).mono ?_
            rintro e V3 ⟨rfl, hb9⟩
            go_wp2_with fail
            go_ret
            exact ⟨rfl, HR.out.low.trans (hb9.mono HR.out.low.size)⟩
      · have hd0 : decide (0 ≤ id) = true := decide_eq_true hk1
        have hk2 : (n : Int) ≤ id := by omega
        have hd1 : decide (id < (n : Int)) = false := decide_eq_false (by omega)
        have HP := Lib.hid (fun W (h : Below w1.heap.size w1 W) => pushBadHS (HM.out.below h).q hk (ltr pr))
        have HC := Lib.hid (fun W (h : Below w1.heap.size w1 W) => changeBadHS (HM.out.below h).q hk (ltr q))
        go_wp2_with fail
        refine (HL.out w1).mono ?_
        rintro e w2 ⟨rfl, hb2⟩
        go_wp2_with fail
        refine (HP.out w2 hb2).mono ?_
        rintro e w3 ⟨rfl, rfl⟩
        go_wp2_with fail
        refine (HL2.out w3).mono ?_
        rintro e w4 ⟨rfl, hb4⟩
        have hb5 := hb2.trans (hb4.mono hb2.size)
        go_wp2_with fail
        refine (HC.out w4 hb5).mono ?_
        rintro e w5 ⟨rfl, rfl⟩
        have HZ := Lib.hid (HM.out.below hb5)
        clear HM HP HC hb2 hb4 hb5
        go_wp2_with fail
        go_loopw [15] (fun s wr => ∃ i : Nat, i ≤ n ∧ s = .int .i64 i ∧ Hid (Made w wr w.heap.size n m)) (fun s _ => n - (intOf s).toNat)
        case atStart => exact ⟨0, by omega, rfl, HZ⟩
        case round =>
          obtain ⟨i, hi, rfl, HR⟩ := hrel
          clear HZ
          have hR := HR.out
          by_cases hlt : i < n
          · have hwc := hR.want.cell hlt
            cases hmi : m i with
            | none =>
              have hpn := priorityNoHS hR.q (i : Int) (fun _ => by rw [Int.toNat_natCast]; exact lm_none hmi)
              rw [hmi] at hwc
              simp only [wv] at hwc
              have hdn : decide ((0 : Int) ≤ -1) = false := rfl
              clear hR
              go_wp2_with fail
              refine hpn.mono ?_
              rintro e W1 ⟨rfl, rfl⟩
              go_wp2_with fail
              go_roundw
              case rel => exact ⟨i + 1, by omega, by go_num, HR⟩
              case measure => simp [intOf]; omega
            | some u =>
              have hu := hR.small i u hmi
              have hps := priorityHS hR.q (lm_some hmi)
              have hwu : IntKind.u8.wrap (u : Int) = (u : Int) := wrap_u8 hu
              rw [hmi] at hwc
              have hwc' : wr.cell? ⟨w.heap.size + 1, i, none⟩ = some (.int .i64 (u : Nat)) := hwc
              have hsu : ((ltr u).toList == (ltr u).toList) = true := beq_self_eq_true _
              have hu0 : (0 : Int) ≤ (u : Int) := by omega
              have HLU := Lib.hid (letter_any u hu)
              clear hR hwc
              go_wp2_with fail
              refine hps.mono ?_
              rintro e W1 ⟨rfl, rfl⟩
              go_wp2_with fail
              refine (HLU.out W1).mono ?_
              rintro e W2 ⟨rfl, hb⟩
              have HR2 := Lib.hid (HR.out.below hb)
              go_wp2_with fail
              go_roundw
              case rel => exact ⟨i + 1, by omega, by go_num, HR2⟩
              case measure => simp [intOf]; omega
          · obtain rfl : i = n := by omega
            clear hR hlt hi
            have hln := lenHS HR.out.q
            rw [cnt_lm] at hln
            have hct := count_any HR.out.want (by omega)
            have HLN := Lib.hid (And.intro hln hct)
            clear hln hct
            go_wp2_with fail
            refine HLN.out.1.mono ?_
            rintro e V1 ⟨rfl, rfl⟩
            go_wp2_with fail
            refine HLN.out.2.mono ?_
            rintro e V2 ⟨rfl, rfl⟩
            generalize cntW i _ = cc at *
            go_wp2_with fail
            refine (HW.out _).mono ?_
            rintro e V3 ⟨rfl, hb9⟩
            go_wp2_with fail
            go_ret
            exact ⟨rfl, HR.out.low.trans (hb9.mono HR.out.low.size)⟩
end Go.Proofs.Ythllcfmmfnaogaa
