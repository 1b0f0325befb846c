/- The chapter's example. -/
import Derived.Test.YtpnhklehpilopaaOmSeqA
import Derived.Test.YtpnhklehpilopaaShelf
import Derived.RangeFuncBox
import Derived.Maps.AppendAt
import Derived.Outline
namespace Go.Proofs.Ytpnhklehpilopaa
open Go Go.RowKit

attribute [local go_sem] Oper.semAt_some

def exK : Nat → Int | 0 => 5 | 1 => 2 | 2 => 9 | _ => 5
def exV : Nat → ByteArray | 0 => ⟨#[97]⟩ | 1 => ⟨#[98]⟩ | 2 => ⟨#[99]⟩ | _ => ⟨#[100]⟩
def exO : Nat → ByteArray | 0 => ⟨#[]⟩ | 1 => ⟨#[]⟩ | 2 => ⟨#[]⟩ | _ => ⟨#[97]⟩
def exH : Nat → Bool | 0 => false | 1 => false | 2 => false | _ => true
def exL : Nat → List (Int × ByteArray)
  | 0 => []
  | 1 => [(5, ⟨#[97]⟩)]
  | 2 => [(2, ⟨#[98]⟩), (5, ⟨#[97]⟩)]
  | 3 => [(2, ⟨#[98]⟩), (5, ⟨#[97]⟩), (9, ⟨#[99]⟩)]
  | _ => [(2, ⟨#[98]⟩), (5, ⟨#[100]⟩), (9, ⟨#[99]⟩)]

theorem ex_step : ∀ k, k < 4 → kSet ltI (exL k) (exK k) (exV k) = exL (k + 1) ∧ (kGet (exL k) (exK k)).getD ⟨#[]⟩ = exO k ∧ kHas (exL k) (exK k) = exH k ∧ (exL k).length ≤ 3 := by
  intro k hk
  match k, hk with
  | 0, _ => exact ⟨rfl, rfl, rfl, by decide⟩
  | 1, _ => exact ⟨rfl, rfl, rfl, by decide⟩
  | 2, _ => exact ⟨rfl, rfl, rfl, by decide⟩
  | 3, _ => exact ⟨rfl, rfl, rfl, by decide⟩

/-- The table that the example goes through. -/
def exCells : Array Value := #[.int .i64 5, .string ⟨#[97]⟩, .string ⟨#[]⟩, .bool false, .int .i64 2, .string ⟨#[98]⟩, .string ⟨#[]⟩, .bool false, .int .i64 9, .string ⟨#[99]⟩, .string ⟨#[]⟩, .bool false, .int .i64 5, .string ⟨#[100]⟩, .string ⟨#[97]⟩, .bool true]

theorem ex_cells {w : World} {B : Nat} {t : TypeId} (h : w.heap[B]? = some (.cells exCells t (0, 0))) : ∀ k, k < 4 →
    w.cell? ⟨B, k * 4, none⟩ = some (.int .i64 (exK k)) ∧ w.cell? ⟨B, k * 4 + 1, none⟩ = some (.string (exV k)) ∧ w.cell? ⟨B, k * 4 + 2, none⟩ = some (.string (exO k)) ∧ w.cell? ⟨B, k * 4 + 3, none⟩ = some (.bool (exH k)) := by
  intro k hk
  match k, hk with
  | 0, _ => exact ⟨by simp [World.cell?, h]; rfl, by simp [World.cell?, h]; rfl, by simp [World.cell?, h]; rfl, by simp [World.cell?, h]; rfl⟩
  | 1, _ => exact ⟨by simp [World.cell?, h]; rfl, by simp [World.cell?, h]; rfl, by simp [World.cell?, h]; rfl, by simp [World.cell?, h]; rfl⟩
  | 2, _ => exact ⟨by simp [World.cell?, h]; rfl, by simp [World.cell?, h]; rfl, by simp [World.cell?, h]; rfl, by simp [World.cell?, h]; rfl⟩
  | 3, _ => exact ⟨by simp [World.cell?, h]; rfl, by simp [World.cell?, h]; rfl, by simp [World.cell?, h]; rfl, by simp [World.cell?, h]; rfl⟩

theorem rank_ex : kRank ltI [((5 : Int), (⟨#[100]⟩ : ByteArray)), (9, ⟨#[99]⟩)] 100 = 2 := rfl

theorem infoInt : (Try.prog.info? 3).map (fun i => (i.zero, i.size, i.bytes)) = some (some (.int .i64 0), 1, 8) := by kernel_rfl

set_option maxHeartbeats 4000000 in
set_option maxRecDepth 100000 in
theorem works3_in (n : Nat) (hn : 10 ≤ n) (w : World) : CallsIn Fence.wide n Try.prog 15 #[] w fun e w' => e = .returned (.bool true) ∧ Below w.heap.size w w' := by
  have h1 : 1 ≤ n := by omega
  refine callsIn_of_wp_marks Try.func15 rfl trivial ?_ rfl
  simp only [Try.ntmps15, List.size_toArray, List.length_nil, Array.size_empty, List.length_cons, Nat.reduceAdd, Nat.reduceSub, Array.replicate_succ, Array.replicate_zero, List.push_toArray, List.append_toArray, List.nil_append, List.cons_append, Array.empty_append]
  gi_wp2_with (refine ⟨trivial, ?_⟩; gi_at_call 81; refine (callsIn_wide.2 (newA _)).mono ?_; rintro e w1 ⟨rfl, hM, hb, hs⟩)
  have hT : (w1.alloc (.cells exCells 145)).heap[w1.heap.size]? = some (.cells exCells 145 (0, 0)) := heap_alloc_new w1 _
  have hB1 : Below w.heap.size w (w1.alloc (.cells exCells 145)) := hb.alloc (by omega) _
  have hM1 := hM.below ((Below.refl w1.heap.size w1).alloc (Nat.le_refl _) (.cells exCells 145))
  rw [hs] at hT
  have HT := Lib.hid hT
  have HB1 := Lib.hid hB1
  have HM1 := Lib.hid hM1
  have HS := Lib.hid hs
  clear hT hB1 hM1 hM hb hs
  gi_loopw [39] (fun i wr => ∃ k : Nat, k ≤ 4 ∧ i = .int .i64 k ∧ Hid (∃ p c, MapA wr w.heap.size w.heap.size p c (exL k) ∧ (∀ a, p = some a → w.heap.size + 2 ≤ a.block)) ∧ Hid (wr.heap[w.heap.size + 1]? = some (.cells exCells 145 (0, 0))) ∧ Hid (Below w.heap.size w wr)) (fun i _ => 4 - (intOf i).toNat)
  case atStart => exact ⟨0, by omega, rfl, ⟨none, 0, HM1.out, fun a h => by cases h⟩, HT.out, HB1.out⟩
  case round =>
    obtain ⟨k, hk, rfl, HM, HE, HB⟩ := hrel
    by_cases hlt : k < 4
    · obtain ⟨p, c, hM, hpb⟩ := HM.out
      obtain ⟨c0, c1, c2, c3⟩ := ex_cells HE.out k hlt
      obtain ⟨s1, s2, s3, s4⟩ := ex_step k hlt
      have hbx := HB.out.size
      have hA : Below wr.heap.size wr (wr.alloc (.cells #[.int .i64 (exK k), .string (exV k), .string (exO k), .bool (exH k)] 145)) := (Below.refl _ _).alloc (Nat.le_refl _) _
      have hset := setA (hM.below hA) (by omega) (exK k) (exV k) (by simp; omega)
      rw [s1, s2, s3] at hset
      have hbox : (wr.alloc (.cells #[.int .i64 (exK k), .string (exV k), .string (exO k), .bool (exH k)] 145)).heap[wr.heap.size]? = some (.cells #[.int .i64 (exK k), .string (exV k), .string (exO k), .bool (exH k)] 145 (0, 0)) := heap_alloc_new wr _
      have hlt2 := hM.lt
      have hown : ∀ a, p = some a → a.block < wr.heap.size := fun a ha => (hM.own ha).2
      have HX := Lib.hid (And.intro hpb (And.intro hA (And.intro hbox (And.intro hown hM))))
      clear hpb hA hbox hown hM s1 s2 s3 s4 HM
      generalize hex : exK k = kk at *
      generalize hev : exV k = kv at *
      generalize heo : exO k = ko at *
      generalize heh : exH k = kh at *
      have HQ := Lib.hid (And.intro hex (And.intro hev (And.intro heo heh)))
      clear hex hev heo heh
      gi_wp2_with fail
      refine ⟨trivial, (callsIn_wide.2 hset).mono ?_⟩
      rintro e w5 ⟨rfl, p', c', hM', hT', hH'⟩
      obtain ⟨hpb, hA, hbox, hown, hMr⟩ := HX.out
      have hsame : w5.heap[wr.heap.size]? = some (.cells #[.int .i64 kk, .string kv, .string ko, .bool kh] 145 (0, 0)) := (hT'.block wr.heap.size (by simp) (by omega) (fun a ha => by have := hown a ha; omega)).trans hbox
      have d2 : w5.cell? ⟨wr.heap.size, 2, none⟩ = some (.string ko) := by simp [World.cell?, hsame]
      have d3 : w5.cell? ⟨wr.heap.size, 3, none⟩ = some (.bool kh) := by simp [World.cell?, hsame]
      have HE5 : Hid (w5.heap[w.heap.size + 1]? = some (.cells exCells 145 (0, 0))) := (hT'.block (w.heap.size + 1) (by simp; have := (Array.getElem?_eq_some_iff.1 HE.out).1; omega) (by omega) (fun a ha => by have := hpb a ha; omega)).trans ((hA.block _ (by have := (Array.getElem?_eq_some_iff.1 HE.out).1; omega)).trans HE.out)
      have HB5 : Hid (Below w.heap.size w w5) := (HB.out.trans (hA.mono hbx)).trans (hT'.below (Nat.le_refl _) (fun a ha => by have := hpb a ha; omega) (by simp; omega))
      have HM5 : Hid (∃ p c, MapA w5 w.heap.size w.heap.size p c (exL (k + 1)) ∧ (∀ a, p = some a → w.heap.size + 2 ≤ a.block)) := ⟨p', c', hM', fun a ha => by
        rcases hH' a ha with ⟨a0, h0, h2⟩ | h0
        · rw [← h2]; exact hpb a0 h0
        · have := (Array.getElem?_eq_some_iff.1 HE.out).1; simp at h0; omega⟩
      clear hpb hA hbox hown hMr hsame hM' hT' hH' hset HX
      gi_wp2
      go_roundw
      case rel => exact ⟨k + 1, by omega, by go_num, HM5, HE5, HB5⟩
      case measure => simp [intOf]; omega
    · obtain rfl : k = 4 := by omega
      have hbx := HB.out.size
      obtain ⟨p, c, hM, hpb⟩ := HM.out
      have hf4 := fun W' (hb : Below wr.heap.size wr W') => floorA (hM.below hb) (by decide) 4 (some (2, ⟨#[98]⟩)) rfl
      have hc4 := fun W' (hb : Below wr.heap.size wr W') => ceilA (hM.below hb) (by decide) 4 (some (5, ⟨#[100]⟩)) rfl
      have hf1 := fun W' (hb : Below wr.heap.size wr W') => floorA (hM.below hb) (by decide) 1 none rfl
      have hc10 := fun W' (hb : Below wr.heap.size wr W') => ceilA (hM.below hb) (by decide) 10 none rfl
      have ha2 := fun W' (hb : Below wr.heap.size wr W') => atA (hM.below hb) 2 (some (9, ⟨#[99]⟩)) rfl
      have ha3 := fun W' (hb : Below wr.heap.size wr W') => atA (hM.below hb) 3 none rfl
      have HM2 := Lib.hid hM
      have HPB := Lib.hid hpb
      have HF4 := Lib.hid hf4
      have HC4 := Lib.hid hc4
      have HF1 := Lib.hid hf1
      have HC10 := Lib.hid hc10
      have HA2 := Lib.hid ha2
      have HA3 := Lib.hid ha3
      clear hM hpb hf4 hc4 hf1 hc10 ha2 ha3 HM
      have hb0 := Below.refl wr.heap.size wr
      gi_wp2_with fail
      refine ⟨trivial, (callsIn_wide.2 (HF4.out _ hb0)).mono ?_⟩
      rintro e x1 ⟨rfl, hx⟩
      have hb1 := below_then hb0 hx
      clear hb0 hx
      simp only [tupA]
      gi_wp2_with fail
      refine ⟨trivial, (callsIn_wide.2 (HC4.out _ hb1)).mono ?_⟩
      rintro e x2 ⟨rfl, hx⟩
      have hb2 := below_then hb1 hx
      clear hb1 hx
      simp only [tupA]
      gi_wp2_with fail
      refine ⟨trivial, (callsIn_wide.2 (HF1.out _ hb2)).mono ?_⟩
      rintro e x3 ⟨rfl, hx⟩
      have hb3 := below_then hb2 hx
      clear hb2 hx
      simp only [tupA]
      gi_wp2_with fail
      refine ⟨trivial, (callsIn_wide.2 (HC10.out _ hb3)).mono ?_⟩
      rintro e x4 ⟨rfl, hx⟩
      have hb4 := below_then hb3 hx
      clear hb3 hx
      simp only [tupA]
      gi_wp2_with fail
      refine ⟨trivial, (callsIn_wide.2 (HA2.out _ hb4)).mono ?_⟩
      rintro e x5 ⟨rfl, hx⟩
      have hb5 := below_then hb4 hx
      clear hb4 hx
      simp only [tupEA]
      gi_wp2_with fail
      refine ⟨trivial, (callsIn_wide.2 (HA3.out _ hb5)).mono ?_⟩
      rintro e x6 ⟨rfl, hx⟩
      have hb6 := below_then hb5 hx
      clear hb5 hx
      simp only [tupEA]
      gi_wp2_with fail
      refine ⟨trivial, (callsIn_wide.2 (fromMakeA _ 3 _)).mono ?_⟩
      rintro e x7 ⟨rfl, rfl⟩
      gi_wp2_with fail
      refine ⟨trivial, (callsIn_wide.2 (yieldsA _ _ _)).mono ?_⟩
      rintro e x7 ⟨rfl, rfl⟩
      gi_wp2_with fail
      have hM6 := HM2.out.below hb6
      have hdel : ∀ W', Below x6.heap.size x6 W' → Calls Try.prog 88 #[.pointer (some ⟨w.heap.size, 0, none⟩), .int .i64 2] W' fun e w' => e = .returned (.tuple #[.string ⟨#[98]⟩, .bool true]) ∧ ∃ p' c', MapA w' w.heap.size w.heap.size p' c' [(5, ⟨#[100]⟩), (9, ⟨#[99]⟩)] ∧ Touch w.heap.size p W' w' ∧ Head p p' W'.heap.size := fun W' hb => deleteA (hM6.below hb) (by decide) 2
      have HDEL := Lib.hid hdel
      have hpl : ∀ a, p = some a → a.block < x6.heap.size := fun a ha => (hM6.own ha).2
      have hx6 : w.heap.size + 1 < x6.heap.size := by have := (Array.getElem?_eq_some_iff.1 HE.out).1; have := hb6.size; omega
      have hW0 : Below x6.heap.size x6 (((x6.alloc (.cells #[.slice none 0 0] 53)).alloc (.cells #[.pointer (some ⟨w.heap.size, 0, none⟩)] 143)).alloc (.cells #[.int .i64 3] 3)) := (((Below.refl _ _).alloc (Nat.le_refl _) _).alloc (by simp) _).alloc (by simp; omega) _
      have bF := ((Boxed.new x6 53 (.slice none 0 0)).alloc (.cells #[.pointer (some ⟨w.heap.size, 0, none⟩)] 143)).alloc (.cells #[.int .i64 3] 3)
      have bM := (Boxed.new (x6.alloc (.cells #[.slice none 0 0] 53)) 143 (.pointer (some ⟨w.heap.size, 0, none⟩))).alloc (.cells #[.int .i64 3] 3)
      have bK := Boxed.new ((x6.alloc (.cells #[.slice none 0 0] 53)).alloc (.cells #[.pointer (some ⟨w.heap.size, 0, none⟩)] 143)) 3 (.int .i64 3)
      rw [World.size_alloc] at bM
      rw [World.size_alloc, World.size_alloc] at bK
      obtain ⟨i0, hi, hz0, hz1, hz2⟩ := info_parts infoInt
      have HB6 := Lib.hid (HB.out.trans (hb6.mono hbx))
      refine rangeG (encs := encA) (fun x T => ((T.setIfInBounds 107 (.int .i64 x.1)).setIfInBounds 108 (.string x.2)).setIfInBounds 26 (.int .i64 x.1)) rfl h1 (gf := 179) (lb := #[.pointer (some ⟨x6.heap.size + 1, 0, none⟩), .pointer (some ⟨x6.heap.size + 1 + 1, 0, none⟩)]) rfl trivial (enters_of Try.func179 (by kernel_rfl) rfl)
        (fromStopsA (n - 1) (by omega) 3 (by decide) (x6.heap.size + 1) (x6.heap.size + 1 + 1) x6.heap.size _ bM.cell bK.cell (hM6.below hW0) hpl (by simp; omega)) belowK_t (belowK_b (by simp; omega)) (Below.refl _ _) (fun _ => rfl)
        (fun pre W => (∃ v, Boxed W x6.heap.size 53 v ∧ W.ownsRow x6.heap.size 3 1 v pre.length (pre.map fun x => Value.int .i64 x.1) ∧ True) ∧ Below x6.heap.size x6 W)
        (fun _ _ _ => False)
        (OwnFrom.and (Own.from (holdsRow_own x6.heap.size x6.heap.size 53 3 1 (fun pre : List (Int × ByteArray) => pre.length) (fun pre => pre.map fun x => Value.int .i64 x.1) (fun _ _ => True)) _) (ownFrom_below (Nat.le_refl _) (by simp; omega)))
        (fun _ _ _ _ _ hs _ _ => hs)
        ⟨⟨_, bF, World.ownsRow_nil _ _ _ _, trivial⟩, hW0⟩ ?assign ?body ?done ?stop
      case assign =>
        intro l x W K hK
        unfold encA
        gi_wp2
        exact hK
      case body =>
        rintro l pre x W ⟨⟨v, hv, hrow, _⟩, hB⟩ hlt2
        have hc := hv.cell
        have hlt3 : pre.length < 2 := hlt2
        clear hlt2
        gi_wp2_with (gi_at_builtin; refine wpListIn_append_own _ rfl _ _ 53 rfl x6.heap.size 3 i0 (.int .i64 0) 1 8 Try.underlying53 hi hz0 hz1 hz2 rfl (by decide) _ _ _ rfl (hrow.alloc _) ⟨W.heap.size, 0, none⟩ 1 1 [.int .i64 x.1] rfl rfl (cell_one_new _ _ _) (by simp [Value.oneCell']) (by unfold maxLen; omega) (by omega) (by have := hB.size; simp; omega) ?_; intro v' w1 hown' hgrow _; obtain ⟨g', cap', rfl⟩ := ownsRow_succ hown'; obtain ⟨hv1, hv2, hr2, hk2, hb2⟩ := hv.appended (by decide) hrow hB.size (Nat.le_refl _) hown' hgrow; have hc1 := hv1.cell; have hf1 := hv1.frozen)
        exact ⟨hk2.from _, hb2, ⟨_, hv2, by simpa using hr2, trivial⟩, hB.trans hb2⟩
      case stop =>
        rintro D c pre W _ _ h _
        exact h.elim
      case done =>
        rintro D ys W hD rfl ⟨⟨v, hv, hrow, _⟩, hB⟩ hK
        obtain ⟨g', cap', rfl⟩ := ownsRow_succ hrow
        have hkr := rank_ex
        have hMW := hM6.below hB
        have hBs := hB.size
        have hDW : D < W.heap.size := (Array.getElem?_eq_some_iff.1 hK).1
        have hD2 : x6.heap.size + 3 ≤ D := by simp at hD; omega
        have hgr : x6.heap.size ≤ g' ∧ g' < W.heap.size := hrow.lt g' rfl
        have hcells : ∀ j v, [Value.int .i64 5, Value.int .i64 9][j]? = some v → W.cell? ⟨g', j, none⟩ = some v := fun j v hj => by
          have := hrow.cells (g := g') rfl j v hj
          rwa [Addr.add_lit, Nat.zero_add] at this
        have HV := Lib.hid hv
        have HROW := Lib.hid hrow
        have HCE := Lib.hid hcells
        have HKD := Lib.hid hK
        have HMW := Lib.hid hMW
        have HBW := Lib.hid hB
        have hdw := HDEL.out W hB
        clear hv hrow hcells hK hMW hB hW0 bF bM bK hM6 hdel
        gi_wp2_with fail
        refine ⟨trivial, (callsIn_wide.2 hdw).mono ?_⟩
        rintro e W1 ⟨rfl, p1, c1, hM1, hT1, hH1⟩
        have hpl' : ∀ a, p = some a → a.block < x6.heap.size := hpl
        have keep : ∀ k, x6.heap.size ≤ k → k < W.heap.size → W1.heap[k]? = W.heap[k]? := fun k hk1 hk2 => hT1.block k hk2 (by omega) (fun a ha => by have := hpl a ha; omega)
        have hbox1 : W1.heap[x6.heap.size]? = some (.cells #[.slice (some ⟨g', 0, none⟩) 2 cap'] 53 (0, 0)) := (keep _ (Nat.le_refl _) (by omega)).trans HV.out
        have hd1 : W1.heap[D]? = some (.deferred (some [])) := (keep D (by omega) hDW).trans HKD.out
        have hce1 : ∀ j v, [Value.int .i64 5, Value.int .i64 9][j]? = some v → W1.cell? ⟨g', j, none⟩ = some v := fun j v hj => by
          rw [← HCE.out j v hj]
          simp only [World.cell?, keep g' hgr.1 hgr.2]
        have hB1w : Below w.heap.size w W1 := (HB6.out.trans (HBW.out.mono (by omega))).trans (hT1.below (Nat.le_refl _) (fun a ha => by have := HPB.out a ha; omega) (by omega))
        have hs1 := hT1.size
        have HM1' := Lib.hid hM1
        have HK1 := Lib.hid hd1
        have HC1 := Lib.hid hce1
        have HX1 := Lib.hid hbox1
        have HBW1 := Lib.hid hB1w
        clear hM1 hT1 hH1 hdw hpl hpl' keep hd1 hce1 hbox1 hB1w
        gi_wp2_with fail
        refine ⟨trivial, (callsIn_wide.2 (minA HM1'.out (some (5, ⟨#[100]⟩)) rfl)).mono ?_⟩
        rintro e W2 ⟨rfl, hb2⟩
        simp only [tupA]
        have hr2 := rankA (HM1'.out.below hb2) (by decide) 100
        rw [rank_ex] at hr2
        have HB2 := Lib.hid hb2
        clear hb2
        gi_wp2_with fail
        refine ⟨trivial, (callsIn_wide.2 hr2).mono ?_⟩
        rintro e W3 ⟨rfl, hb3⟩
        have hb13 := below_then HB2.out hb3
        have hs3 := hb13.size
        have hld : W3.cell? ⟨x6.heap.size, 0, none⟩ = some (.slice (some ⟨g', 0, none⟩) 2 cap') := by
          simp only [World.cell?, hb13.block x6.heap.size (by omega), HX1.out]; rfl
        have heq := Try.slices_Equal_int g' 0 2 cap' W3.heap.size 0 2 2 [5, 9] [5, 9] (W3.alloc (.cells #[.int .i64 5, .int .i64 9] 3)) (by decide) (by decide) (by decide) (by decide)
          (fun j hj => by
            rw [Nat.zero_add]
            have hlt3 : g' < W3.heap.size := by omega
            rw [((Below.refl W3.heap.size W3).alloc (Nat.le_refl _) (.cells #[.int .i64 5, .int .i64 9] 3)).cell (p := ⟨g', j, none⟩) hlt3, hb13.cell (p := ⟨g', j, none⟩) (by show g' < W1.heap.size; omega)]
            refine HC1.out j _ ?_
            match j, hj with
            | 0, _ => rfl
            | 1, _ => rfl)
          (fun j hj => by
            rw [Nat.zero_add, World.cell?_alloc_new]
            match j, hj with
            | 0, _ => rfl
            | 1, _ => rfl)
        have HB13 := Lib.hid hb13
        clear hb3 hb13 hr2
        gi_wp2_with fail
        refine ⟨trivial, (callsIn_wide.2 heq).mono ?_⟩
        rintro e W4 ⟨rfl, q, rfl⟩
        have hb14 : Below W1.heap.size W1 ((W3.alloc (.cells #[.int .i64 5, .int .i64 9] 3)).drewN q) := Below.drewN' q (HB13.out.alloc (by omega) _)
        have hlen := lenA (HM1'.out.below hb14)
        have HB14 := Lib.hid hb14
        clear hb14 heq hld
        gi_wp2_with fail
        refine ⟨trivial, (callsIn_wide.2 hlen).mono ?_⟩
        rintro e W5 ⟨rfl, rfl⟩
        gi_wp2
        have hKf := (HB14.out.block D (by omega)).trans HK1.out
        have hfin := (HBW1.out.trans (HB14.out.mono (by omega))).trans (belowK_b (w := w) (Nat.le_refl _) _ D _ (.deferred none) (by omega) hKf rfl rfl)
        refine ⟨by simp, .inl ⟨_, _, rfl, run_takeDeferred hKf, ?_⟩⟩
        exact ⟨_, results_tmp rfl _ _ _, rfl, hfin⟩

/-- The chapter's example holds. -/
theorem works3_any (w : World) : Calls Try.prog 15 #[] w fun e w' => e = .returned (.bool true) ∧ Below w.heap.size w w' :=
  callsIn_wide.1 (works3_in 10 (by decide) w)
end Go.Proofs.Ytpnhklehpilopaa
