/- PqueueCopies: the walk. -/
import Derived.Test.YthllcfmmfnaogaaPqTwo
import Derived.Test.YthllcfmmfnaogaaPqApart
import Derived.Test.YthllcfmmfnaogaaPqCopyS
namespace Go.Proofs.Ythllcfmmfnaogaa
open Go Go.RowKit

/-- What stands while the copy is changed: the queue and what is wanted as they were, the copy apart from them. -/
structure Cop (w wr : World) (b bc n : Nat) (m : Nat → Option Nat) (p pc : Option Addr) (mc : Nat → Option ByteArray) : Prop where
  two : Two w wr b b bc n p pc (lm m) mc
  want : WA wr (b + 1) n (fun k => wv (m k))
  c1 : bc ≠ b + 1
  p1 : ∀ a, pc = some a → a.block ≠ b + 1
  p2 : ∀ a, p = some a → a.block ≠ b + 1

def Cop1 (w wr : World) (b bc n : Nat) (m : Nat → Option Nat) : Prop := ∃ p pc mc, Cop w wr b bc n m p pc mc

theorem Cop.below {w W W' : World} {b bc n : Nat} {m : Nat → Option Nat} {p pc : Option Addr} {mc : Nat → Option ByteArray} (h : Cop w W b bc n m p pc mc) (hb : Below W.heap.size W W') : Cop w W' b bc n m p pc mc :=
  ⟨h.two.below hb, h.want.same (hb.block _ h.want.lt), h.c1, h.p1, h.p2⟩

/-- The copy written. -/
theorem Cop.copy {w W W' : World} {b bc n : Nat} {m : Nat → Option Nat} {p pc : Option Addr} {mc mc' : Nat → Option ByteArray} (h : Cop w W b bc n m p pc mc) (hq : PQS W' 0 bc pc n mc') (ht : Touch bc pc W W') : Cop w W' b bc n m p pc mc' :=
  ⟨h.two.right hq ht, h.want.same (ht.block _ h.want.lt (fun e => h.c1 e.symm) (fun a ha e => h.p1 a ha e.symm)), h.c1, h.p1, h.p2⟩

/-- The copy with another row. -/
theorem Cop.copyRow {w W W' : World} {b bc n : Nat} {m : Nat → Option Nat} {p pc pc' : Option Addr} {mc mc' : Nat → Option ByteArray} (h : Cop w W b bc n m p pc mc) (hq : PQS W' 0 bc pc' n mc') (ht : Touch bc pc W W') (hh : Head pc pc' W.heap.size) : Cop w W' b bc n m p pc' mc' := by
  have hbW := h.two.q.lt
  have hwW := h.want.lt
  have hq2 : PQS W' 0 b p n (lm m) := h.two.q.same ht.size (ht.block _ hbW h.two.ne (fun a ha e => h.two.a2 a ha e.symm)) (fun a ha => ht.block _ (h.two.q.own ha).2.1 (h.two.a1 a ha) (fun a0 h0 e => h.two.a3 a a0 ha h0 e))
  have hpc : ∀ a, pc' = some a → a.block ≠ b ∧ a.block ≠ b + 1 ∧ b ≤ a.block ∧ ∀ a0, p = some a0 → a0.block ≠ a.block := fun a ha => by
    rcases hh a ha with ⟨a1, h1, h2⟩ | h1
    · rw [← h2]
      exact ⟨h.two.a2 a1 h1, h.p1 a1 h1, h.two.b4 a1 h1, fun a0 h0 => h.two.a3 a0 a1 h0 h1⟩
    · exact ⟨by omega, by omega, by omega, fun a0 h0 => by have := (h.two.q.own h0).2.1; omega⟩
  refine ⟨⟨hq2, hq, h.two.ne, h.two.a1, fun a ha => (hpc a ha).1, fun a a' ha ha' => (hpc a' ha').2.2.2 a ha, h.two.b1, h.two.b2, h.two.b3, fun a ha => (hpc a ha).2.2.1, h.two.low.trans (ht.below h.two.b2 h.two.b4 (by omega))⟩, ?_, h.c1, fun a ha => (hpc a ha).2.1, h.p2⟩
  exact h.want.same (ht.block _ hwW (fun e => h.c1 e.symm) (fun a ha e => h.p1 a ha e.symm))

/-- What stands while the queue is emptied: the second copy as it was made. -/
def Cop2 (w wr : World) (b bd n : Nat) (m : Nat → Option Nat) : Prop := ∃ p pd mm, Two w wr b b bd n p pd mm (lm m) ∧ WA wr (b + 1) n (fun k => wv (m k)) ∧ ∀ a, p = some a → a.block ≠ b + 1

set_option maxHeartbeats 6400000 in
set_option maxRecDepth 100000 in
theorem copies_any (size : Nat) (hsz : size ≤ 255) (a : Option Addr) (len cap : Nat) (xs : List (Bool × Nat × Nat)) (hlen : xs.length = len) (hc63 : len ≤ 9223372036854775807) (times : Nat) (hti : times ≤ 255) (w : World) (hX : TurnsAt w w.heap.size a xs) :
    Calls Try.prog 14 #[.int .u8 (size : Nat), .slice a len cap, .int .u8 (times : Nat)] w fun e w' => e = .returned (.bool true) ∧ Below w.heap.size w w' := by
  have hmade := made_any size hsz a len cap xs hlen hc63 w hX
  have HW := Lib.hid works4_any
  clear hX hlen
  by_cases h150 : 100 < len
  · have hd : decide ((100 : Int) < (len : Int)) = true := decide_eq_true (by omega)
    clear hmade
    go_enter Try.func14, Try.ntmps14
    go_wp2_with fail
    refine (HW.out w).mono ?_
    rintro e w1 ⟨rfl, hb⟩
    go_wp2_with fail
    go_ret
    exact ⟨rfl, hb⟩
  · have hd : decide ((100 : Int) < (len : Int)) = false := decide_eq_false (by omega)
    generalize hn : 1 + size % 50 = n at *
    have HN := Lib.hid hn
    have hn1 : 1 ≤ n := by omega
    have hn50 : n ≤ 50 := by omega
    clear hn h150
    go_enter Try.func14, Try.ntmps14
    go_wp2_with fail
    refine hmade.mono ?_
    rintro e w1 ⟨rfl, m, hM⟩
    have HSM : Hid (∀ k p, m k = some p → p ≤ 255) := Lib.hid hM.small
    obtain ⟨q1, q2, p, q3, q4⟩ := hM.q
    have hcp := copyS q3
    have hl0 := q3.lt
    have hwant := hM.want
    have hlow := hM.low
    have HQ := Lib.hid (And.intro q2 (And.intro q3 (And.intro q4 (And.intro hwant hlow))))
    clear q1 q2 q3 q4 hM hmade hwant hlow
    go_wp2_with fail
    refine hcp.mono ?_
    rintro e w2 ⟨bc, pc, rfl, h1, h2, h3, h4⟩
    have HS : Hid (Cop1 w w2 w.heap.size bc n m) := Lib.hid (by
      obtain ⟨q2, q3, q4, hwant, hlow⟩ := HQ.out
      refine ⟨p, pc, lm m, ⟨q3.below h2, h1, by omega, fun a ha => by have := (q3.own ha).2.1; omega, fun a ha => by have := h4 a ha; omega, fun a a' ha ha' => by have := (q3.own ha).2.1; have := h4 a' ha'; omega, Nat.le_refl _, by omega, fun a ha => by have := q4 a ha; omega, fun a ha => by have := h4 a ha; omega, hlow.trans (h2.mono (by omega))⟩, hwant.same (h2.block _ hwant.lt), by omega, fun a ha => by have := h4 a ha; omega, fun a ha => by have := q4 a ha; omega⟩)
    clear h1 h2 h3 h4 hcp HQ
    go_wp2_with fail
    go_loopw [10] (fun s wr => ∃ i : Nat, i ≤ times ∧ s = .int .i64 i ∧ Hid (Cop1 w wr w.heap.size bc n m)) (fun s _ => times - (intOf s).toNat)
    case atStart => exact ⟨0, by omega, rfl, HS⟩
    case round =>
      obtain ⟨i, hi, rfl, HR⟩ := hrel
      clear HS
      obtain ⟨p', pc', mc, hC⟩ := HR.out
      by_cases hlt : i < times
      · rcases hC.two.r.fst with ⟨⟨xi, xp⟩, hx⟩ | hx
        · have HP : Hid (Calls Try.prog 72 #[.pointer (some ⟨bc, 0, none⟩)] wr fun e W1 => e = .returned (.tuple #[.int .i64 (xi : Nat), .string xp, .bool true]) ∧ Hid (Cop1 w W1 w.heap.size bc n m)) := Lib.hid (by
            refine (popS hC.two.r hx).mono ?_
            rintro e W1 ⟨he, h1, h2⟩
            exact ⟨he, Lib.hid ⟨p', pc', _, hC.copy h1 h2⟩⟩)
          clear HR hC hx
          go_wp2_with fail
          refine HP.out.mono ?_
          rintro e W1 ⟨rfl, HR⟩
          go_wp2_with fail
          go_roundw
          case rel => exact ⟨i + 1, by omega, by go_num, HR⟩
          case measure => simp [intOf]; omega
        · have HP : Hid (Calls Try.prog 72 #[.pointer (some ⟨bc, 0, none⟩)] wr fun e W1 => e = .returned (.tuple #[.int .i64 0, .string ⟨#[]⟩, .bool false]) ∧ Hid (Cop1 w W1 w.heap.size bc n m)) := Lib.hid (by
            refine (popNoS hC.two.r hx).mono ?_
            rintro e W1 ⟨he, h1⟩
            exact ⟨he, Lib.hid ⟨p', pc', _, hC.below h1⟩⟩)
          clear HR hC hx
          go_wp2_with fail
          refine HP.out.mono ?_
          rintro e W1 ⟨rfl, HR⟩
          go_wp2_with fail
          go_roundw
          case rel => exact ⟨i + 1, by omega, by go_num, HR⟩
          case measure => simp [intOf]; omega
      · have HP : Hid (Calls Try.prog 75 #[.pointer (some ⟨bc, 0, none⟩), .int .i64 0, .string ⟨#[120]⟩] wr fun e W1 => (∃ r : Int, e = .returned (.int .i64 r)) ∧ Hid (Cop1 w W1 w.heap.size bc n m)) := Lib.hid (by
          cases h0 : mc 0 with
          | none =>
            refine (pushS hC.two.r (Nat.zero_le _) (k := 0) (by omega) h0 ⟨#[120]⟩).mono ?_
            rintro e W1 ⟨he, pc2, h1, h2, h3⟩
            exact ⟨⟨0, he⟩, Lib.hid ⟨p', pc2, _, hC.copyRow h1 h2 h3⟩⟩
          | some u =>
            refine (pushHaveS hC.two.r (k := 0) h0 ⟨#[120]⟩).mono ?_
            rintro e W1 ⟨he, rfl⟩
            exact ⟨⟨6, he⟩, Lib.hid ⟨p', pc', _, hC⟩⟩)
        clear HR hC hi
        have hge : times ≤ i := by omega
        obtain ⟨wA, hwA⟩ : ∃ wA, wA = wr := ⟨_, rfl⟩
        subst hwA
        go_wp2_with fail
        refine HP.out.mono ?_
        rintro e wB ⟨⟨r, rfl⟩, HR⟩
        clear HP
        go_wp2_with fail
        go_loopw [11] (fun s wr => ∃ i : Nat, i ≤ n ∧ s = .int .i64 i ∧ Hid (Cop1 w wr w.heap.size bc n m)) (fun s _ => n - (intOf s).toNat)
        case atStart => exact ⟨0, by omega, rfl, HR⟩
        case round =>
          obtain ⟨j, hj, rfl, HR2⟩ := hrel
          clear HR
          obtain ⟨p', pc', mc, hC⟩ := HR2.out
          by_cases hlt2 : j < n
          · have hwc := hC.want.cell hlt2
            cases hmi : m j with
            | none =>
              have hpn := priorityNoS hC.two.q (j : Int) (fun _ => by rw [Int.toNat_natCast]; exact lm_none hmi)
              rw [hmi] at hwc
              simp only [wv] at hwc
              have hdn : decide ((0 : Int) ≤ -1) = false := rfl
              clear hC
              go_wp2_with fail
              refine hpn.mono ?_
              rintro e W1 ⟨rfl, rfl⟩
              go_wp2_with fail
              go_roundw
              case rel => exact ⟨j + 1, by omega, by go_num, HR2⟩
              case measure => simp [intOf]; omega
            | some u =>
              have hu := HSM.out j u hmi
              have hps := priorityS hC.two.q (lm_some hmi)
              have hwu : IntKind.u8.wrap (u : Int) = (u : Int) := wrap_u8 hu
              rw [hmi] at hwc
              have hwc' : wr.cell? ⟨w.heap.size + 1, j, none⟩ = some (.int .i64 (u : Nat)) := hwc
              have hsu : ((ltr u).toList == (ltr u).toList) = true := beq_self_eq_true _
              have hu0 : (0 : Int) ≤ (u : Int) := by omega
              have HLU := Lib.hid (letter_any u hu)
              have HC3 : Hid (∀ W, Below wr.heap.size wr W → Hid (Cop1 w W w.heap.size bc n m)) := Lib.hid fun W hb => Lib.hid ⟨p', pc', mc, hC.below hb⟩
              clear hC hwc
              go_wp2_with fail
              refine hps.mono ?_
              rintro e W1 ⟨rfl, rfl⟩
              go_wp2_with fail
              refine (HLU.out W1).mono ?_
              rintro e W2 ⟨rfl, hb⟩
              have HR3 := HC3.out W2 hb
              go_wp2_with fail
              go_roundw
              case rel => exact ⟨j + 1, by omega, by go_num, HR3⟩
              case measure => simp [intOf]; omega
          · obtain rfl : j = n := by omega
            have hcp := copyS hC.two.q
            have HC4 : Hid (∀ w2 bd pd, PQS w2 0 bd pd j (lm m) → Below wr.heap.size wr w2 → wr.heap.size ≤ bd → (∀ a, pd = some a → wr.heap.size ≤ a.block) → Hid (Cop2 w w2 w.heap.size bd j m)) := Lib.hid fun w2 bd pd h1 h2 h3 h4 => Lib.hid (show Cop2 w w2 w.heap.size bd j m by
              have q3 := hC.two.q
              have hwl := hC.want.lt
              have hbl := q3.lt
              exact ⟨p', pd, lm m, ⟨q3.below h2, h1, by omega, fun a ha => by have := (q3.own ha).2.1; omega, fun a ha => by have := h4 a ha; omega, fun a a' ha ha' => by have := (q3.own ha).2.1; have := h4 a' ha'; omega, Nat.le_refl _, by omega, hC.two.b3, fun a ha => by have := h4 a ha; omega, hC.two.low.trans (h2.mono (by omega))⟩, hC.want.same (h2.block _ hC.want.lt), hC.p2⟩)
            clear hC hlt2 hj HR2
            obtain ⟨wE, hwE⟩ : ∃ wE, wE = wr := ⟨_, rfl⟩
            subst hwE
            go_wp2_with fail
            refine hcp.mono ?_
            rintro e w2 ⟨bd, pd, rfl, h1, h2, h3, h4⟩
            have HD := HC4.out w2 bd pd h1 h2 h3 h4
            clear h1 h2 h3 h4 hcp HC4
            go_wp2_with fail
            go_loopw [] (fun wr => Hid (Cop2 w wr w.heap.size bd j m)) (fun wr => lenOf wr w.heap.size)
            case atStart => exact HD
            case round =>
              obtain ⟨p, pd, mm, hT, hwant, hpw⟩ := hrel.out
              have hln := lenS hT.q
              by_cases hz : 0 < cntQ j mm
              · obtain ⟨⟨xi, xp⟩, hx⟩ : ∃ x, FstS mm x := by
                  rcases hT.q.fst with h | h
                  · exact h
                  · rw [cntQ_zero h] at hz; omega
                have hxs : xi < j := by
                  rcases Nat.lt_or_ge xi j with h | h
                  · exact h
                  · have := hT.q.low h; have h2 := hx.1; rw [this] at h2; cases h2
                have hmeas : cntQ j (mSet mm xi none) < lenOf wr w.heap.size := by
                  rw [hT.q.lenOf]
                  have := cntQ_pop mm xi hx.1 j hxs
                  omega
                have HP1 : Hid (Calls Try.prog 72 #[.pointer (some ⟨w.heap.size, 0, none⟩)] wr fun e W1 => e = .returned (.tuple #[.int .i64 (xi : Nat), .string xp, .bool true]) ∧ Hid (Cop2 w W1 w.heap.size bd j m) ∧ Hid (lenOf W1 w.heap.size < lenOf wr w.heap.size)) := Lib.hid (by
                  refine (popS hT.q hx).mono ?_
                  rintro e W1 ⟨he, h1, h2⟩
                  refine ⟨he, Lib.hid ⟨p, pd, _, hT.left h1 h2, hwant.same (h2.block _ hwant.lt (by omega) (fun a ha e => hpw a ha e.symm)), hpw⟩, Lib.hid ?_⟩
                  rw [h1.lenOf]; exact hmeas)
                have hz1 : decide ((0 : Int) < (cntQ j mm : Int)) = true := decide_eq_true (by omega)
                generalize cntQ j mm = cc at *
                clear hT hx hmeas hxs hrel HD hwant hpw
                go_wp2_with fail
                refine hln.mono ?_
                rintro e V1 ⟨rfl, rfl⟩
                go_wp2_with fail
                refine HP1.out.mono ?_
                rintro e V2 ⟨rfl, HT3, HM3⟩
                clear HP1 hln
                go_wp2_with fail
                go_roundw
                case rel => exact HT3
                case measure => exact HM3.out
              · have hz0 : cntQ j mm = 0 := by omega
                have hlr := lenS hT.r
                rw [cnt_lm] at hlr
                have hct := count_any hwant (by omega)
                rw [hz0] at hln
                have HL := Lib.hid (And.intro hln (And.intro hlr hct))
                have HLow := Lib.hid hT.low
                clear hln hlr hct hT hz hz0 hrel HD hwant hpw
                go_wp2_with fail
                refine HL.out.1.mono ?_
                rintro e V1 ⟨rfl, rfl⟩
                go_wp2_with fail
                refine HL.out.2.1.mono ?_
                rintro e V2 ⟨rfl, rfl⟩
                go_wp2_with fail
                refine HL.out.2.2.mono ?_
                rintro e V4 ⟨rfl, rfl⟩
                generalize cntW j _ = cc at *
                go_wp2_with fail
                refine (HW.out _).mono ?_
                rintro e V3 ⟨rfl, hb9⟩
                go_wp2_with fail
                go_ret
                exact ⟨rfl, HLow.out.trans (hb9.mono HLow.out.size)⟩
end Go.Proofs.Ythllcfmmfnaogaa
