/- HistoryPlays: a list shows what the document's list shows that holds the same. -/
import Derived.Test.YtahccgbmbnmcgaaHiRef4
import Derived.Test.YtahccgbmbnmcgaaHiSinceS
import Derived.Test.YtahccgbmbnmcgaaHiSinceL
namespace Go.Proofs.Ytahccgbmbnmcgaa
open Go Go.RowKit

section
variable {W : World} {b b2 : Nat} {p p2 : Option Addr} {c c2 lim m : Nat} {l : List ByteArray}

theorem allV (h : HLS W b p c lim m l) (hl : l.length < 1000) : Calls Try.prog 50 #[.pointer (some ⟨b, 0, none⟩)] W fun e w' => ∃ q d, e = .returned (.tuple #[.slice q l.length d, .bool true]) ∧ Hid (RdS w' q l) ∧ Below W.heap.size W w' := by
  refine (allG_any (v := some ⟨b, 0, none⟩) (N := l.length) (l := l) (Qp := fun A => HLS A b p c lim m l) W rfl hl (fun X bl hX hc => allSeqS 9 (by decide) bl X hc (h.below hX)) (fun A hA => h.same (hA b h.lt) (fun a ha => hA _ (h.own ha)))).mono fun e w' ⟨u, he, hr, hbw⟩ => ?_
  obtain ⟨q, d, rfl, -, -⟩ := ownsRow_slice4 hr
  exact ⟨q, d, he, Lib.hid (rdS_of_row hr), hbw⟩

theorem sinceV (h : HLS W b p c lim m l) (hl : l.length < 1000) : Calls Try.prog 43 #[.pointer (some ⟨b, 0, none⟩)] W fun e w' => ∃ q d, e = .returned (.slice q (l.length - m) d) ∧ Hid (RdS w' q (l.drop m)) ∧ Below W.heap.size W w' := by
  refine (since_any W h (by omega)).mono fun e w' ⟨u, he, hr, hbw⟩ => ?_
  obtain ⟨q, d, rfl, -, -⟩ := ownsRow_slice4 hr
  exact ⟨q, d, he, Lib.hid (rdS_of_row hr), hbw⟩

theorem atV (h : HLS W b p c lim m l) (hR : RL W b2 p2 c2 lim m l) (k : Int) : ∃ (x : ByteArray) (e0 : Nat), (Calls Try.prog 44 #[.pointer (some ⟨b, 0, none⟩), .int .i64 k] W fun e w' => e = .returned (.tuple #[.string x, .int .i64 (e0 : Nat)]) ∧ w' = W) ∧ (Calls Try.prog 49 #[.pointer (some ⟨b2, 0, none⟩), .int .i64 k] W fun e w' => e = .returned (.tuple #[.string x, .int .i64 (e0 : Nat)]) ∧ w' = W) := by
  by_cases hk : k < 0 ∨ (l.length : Int) ≤ k
  · exact ⟨⟨#[]⟩, 3, atBadS h k hk, ratBad hR k hk⟩
  · obtain ⟨j, rfl⟩ : ∃ j : Nat, k = j := ⟨k.toNat, by omega⟩
    have hj : j < l.length := by omega
    have hx : l[j]? = some l[j] := List.getElem?_eq_getElem hj
    exact ⟨l[j], 0, atS h j _ hx, rat hR j _ hx⟩

set_option maxHeartbeats 3200000 in
set_option maxRecDepth 100000 in
/-- A list shows what the document's list shows that holds the same. -/
theorem showsV (h : HLS W b p c lim m l) (hR : RL W b2 p2 c2 lim m l) (hl : l.length < 1000) (k : Int) :
    Calls Try.prog 23 #[.pointer (some ⟨b, 0, none⟩), .pointer (some ⟨b2, 0, none⟩), .int .i64 k] W fun e w' => e = .returned (.bool true) ∧ Hid (Below W.heap.size W w') := by
  obtain ⟨x, e0, hat, hra⟩ := atV h hR k
  have hal := allV h hl
  have HL := Lib.hid hl
  have HH : Hid (∀ V, Below W.heap.size W V → HLS V b p c lim m l ∧ RL V b2 p2 c2 lim m l) := Lib.hid fun V hV => ⟨h.below hV, hR.below hV⟩
  clear h hR hl
  obtain ⟨n, hn⟩ : ∃ n, n = l.length := ⟨_, rfl⟩
  rw [← hn] at hal
  obtain ⟨nm, hnm⟩ : ∃ nm, nm = l.length - m := ⟨_, rfl⟩
  have HN := Lib.hid (And.intro hn hnm)
  clear hn hnm
  go_enter Try.func23, Try.ntmps23
  go_wp2_with fail
  refine hat.mono ?_
  rintro e w1 ⟨rfl, rfl⟩
  go_wp2_with fail
  refine hra.mono ?_
  rintro e w2 ⟨rfl, rfl⟩
  go_wp2_with fail
  refine hal.mono ?_
  rintro e w3 ⟨q, d, rfl, hq3, hb3⟩
  have hr3 := rall (HH.out w3 hb3).2
  rw [← HN.out.1] at hr3
  have HB3 := Lib.hid (And.intro hb3 hq3.out)
  clear hat hra hal hb3 hq3
  go_wp2_with fail
  refine hr3.mono ?_
  rintro e w4 ⟨q4, d4, rfl, hq4, hb4⟩
  have hE4 : Calls Try.prog 42 #[.slice q n d, .slice q4 n d4] w4 fun e w' => e = .returned (.bool true) ∧ ∃ k, w' = w4.drewN k := (HB3.out.2.below hb4).same hq4.out HN.out.1.symm HN.out.1.symm (by have := HL.out; have := HN.out.1; omega) (by have := HL.out; have := HN.out.1; omega)
  have HB4 := Lib.hid (HB3.out.1.trans (hb4.mono HB3.out.1.size))
  clear hr3 hb4 HB3 hq4
  go_wp2_with fail
  refine hE4.mono ?_
  rintro e w5 ⟨rfl, k5, rfl⟩
  have hb5 : Below w2.heap.size w2 (w4.drewN k5) := Below.drewN' _ HB4.out
  obtain ⟨V5, hV5⟩ : ∃ V5, V5 = w4.drewN k5 := ⟨_, rfl⟩
  rw [← hV5] at hb5 ⊢
  have hs5 := sinceV (HH.out V5 hb5).1 HL.out
  rw [← HN.out.2] at hs5
  have HB5 := Lib.hid hb5
  clear hE4 hb5 hV5 HB4
  go_wp2_with fail
  refine hs5.mono ?_
  rintro e w6 ⟨q6, d6, rfl, hq6, hb6⟩
  have hb6' := HB5.out.trans (hb6.mono HB5.out.size)
  have hr6 := rsince (HH.out w6 hb6').2
  rw [← HN.out.2] at hr6
  have HB6 := Lib.hid (And.intro hb6' hq6.out)
  clear hs5 hb6 hb6' HB5 hq6
  go_wp2_with fail
  refine hr6.mono ?_
  rintro e w7 ⟨q7, d7, rfl, hq7, hb7⟩
  have hE7 : Calls Try.prog 42 #[.slice q6 nm d6, .slice q7 nm d7] w7 fun e w' => e = .returned (.bool true) ∧ ∃ k, w' = w7.drewN k := (HB6.out.2.below hb7).same hq7.out (by rw [List.length_drop]; exact HN.out.2.symm) (by rw [List.length_drop]; exact HN.out.2.symm) (by have := HL.out; have := HN.out.2; omega) (by have := HL.out; have := HN.out.2; omega)
  have HB7 := Lib.hid (HB6.out.1.trans (hb7.mono HB6.out.1.size))
  clear hr6 hb7 HB6 hq7
  go_wp2_with fail
  refine hE7.mono ?_
  rintro e w8 ⟨rfl, k8, rfl⟩
  have hb8 : Below w2.heap.size w2 (w7.drewN k8) := Below.drewN' _ HB7.out
  obtain ⟨V8, hV8⟩ : ∃ V8, V8 = w7.drewN k8 := ⟨_, rfl⟩
  rw [← hV8] at hb8 ⊢
  have hl8 := lenS (HH.out V8 hb8).1
  have hm8 := markedS (HH.out V8 hb8).1
  have hrl8 := rlen (HH.out V8 hb8).2
  have hrm8 := rmarked (HH.out V8 hb8).2
  rw [← HN.out.1] at hl8 hrl8
  have HB8 := Lib.hid hb8
  clear hE7 hb8 hV8
  go_wp2_with (first | (go_at_call 41; refine hl8.mono ?_; rintro e w' ⟨rfl, rfl⟩) | (go_at_call 53; refine hrl8.mono ?_; rintro e w' ⟨rfl, rfl⟩) | (go_at_call 40; refine hm8.mono ?_; rintro e w' ⟨rfl, rfl⟩) | (go_at_call 54; refine hrm8.mono ?_; rintro e w' ⟨rfl, rfl⟩))
  go_ret
  exact ⟨rfl, HB8⟩
end
end Go.Proofs.Ytahccgbmbnmcgaa
