/- Where a key stands in an ordered map: the binary search. -/
import Derived.Test.YtpnhklehpilopaaOmBaseA
namespace Go.Proofs.Ytpnhklehpilopaa
open Go Go.RowKit

theorem MapA.len {W : World} {base b : Nat} {p : Option Addr} {c : Nat} {l : List (Int × ByteArray)} (h : MapA W base b p c l) : l.length ≤ 9223372036854775807 := by
  rcases h.row.parts with ⟨h1, h2⟩ | ⟨g, cap, cur, h1, h2, h3, h4, h5, h6, h7⟩
  · have : l = [] := by simpa using h2
    subst this
    simp
  · have := h4; simp at this; unfold maxLen at h5; omega

set_option maxHeartbeats 800000 in
set_option maxRecDepth 100000 in
/-- pick, at an index that there is not. -/
theorem pickNoneA {W : World} {base b : Nat} {p : Option Addr} {c : Nat} {l : List (Int × ByteArray)} (h : MapA W base b p c l) (j : Int) (hj : j < 0 ∨ (l.length : Int) ≤ j) :
    Calls Try.prog 177 #[.pointer (some ⟨b, 0, none⟩), .int .i64 j] W fun e w' => e = .returned (.tuple #[.int .i64 0, .string ⟨#[]⟩, .bool false]) ∧ Below W.heap.size W w' := by
  have hl := listA h
  have hlen := h.len
  clear h
  generalize l.length = n at *
  by_cases h0 : j < 0
  · have h0b : decide (j < 0) = true := by simpa using h0
    clear hj
    go_enter Try.func177, Try.ntmps177
    go_wp2_with (go_at_call 181; refine hl.mono ?_; rintro e w' ⟨rfl, rfl⟩)
    go_quiet (fail)
    go_wp2
    go_ret3
    exact ⟨rfl, Below.drewN' _ ((Below.refl _ _).alloc (Nat.le_refl _) _)⟩
  · have h0b : decide (j < 0) = false := by simpa using h0
    have h1b : decide ((n : Int) ≤ j) = true := by simp; omega
    clear hj
    go_enter Try.func177, Try.ntmps177
    go_wp2_with (go_at_call 181; refine hl.mono ?_; rintro e w' ⟨rfl, rfl⟩)
    go_quiet (fail)
    go_wp2
    go_ret3
    exact ⟨rfl, Below.drewN' _ ((Below.refl _ _).alloc (Nat.le_refl _) _)⟩

set_option maxHeartbeats 800000 in
set_option maxRecDepth 100000 in
/-- The test that the search makes. -/
theorem srchCloA (b0 b1 gb : Nat) (cb : Array Value) (g n cap i : Nat) (key : Int) (r : Bool) (W : World) (hi : i < n) (c0 : W.cell? ⟨b0, 0, none⟩ = some (.func (.func gb) #[] cb)) (c1 : W.cell? ⟨b1, 0, none⟩ = some (.slice (some ⟨g, 0, none⟩) n cap))
    (ck : W.cell? ⟨g, i * 2, none⟩ = some (Value.int .i64 key)) (eg : ∀ args w, (callFunc gb args).run Try.prog w = .ok (.enter gb args) w)
    (hcall : ∀ m, Calls Try.prog gb (#[Value.int .i64 key] ++ cb) (W.drewN m) fun e w' => e = .returned (.bool r) ∧ w' = W.drewN m) :
    Calls Try.prog 222 #[.int .i64 i, .pointer (some ⟨b0, 0, none⟩), .pointer (some ⟨b1, 0, none⟩)] W fun e w' => e = .returned (.bool r) ∧ Below W.heap.size W w' := by
  have h0 : (0 : Int) ≤ (i : Int) := by omega
  have h1 : (i : Int) < (n : Int) := by omega
  have HC := Lib.hid hcall
  clear hcall
  go_enter Try.func222, Try.ntmps222
  go_wp2
  go_quiet ((go_at_fn gb; exact Calls.quiet_of_same (HC.out _)))
  go_wp2
  go_ret
  exact ⟨rfl, Below.drewN' _ (Below.refl _ _)⟩

set_option maxHeartbeats 800000 in
set_option maxRecDepth 100000 in
theorem rankCloA (B : Nat) (key k : Int) (W : World) (c0 : W.cell? ⟨B, 0, none⟩ = some (Value.int .i64 k)) :
    Calls Try.prog 183 #[Value.int .i64 key, .pointer (some ⟨B, 0, none⟩)] W fun e w' => e = .returned (.bool (!ltI key k)) ∧ w' = W := by
  go_enter Try.func183, Try.ntmps183
  go_wp2
  go_ret
  exact ⟨by rw [ltI_geq]; rfl, rfl⟩

set_option maxHeartbeats 800000 in
set_option maxRecDepth 100000 in
theorem floorCloA (B : Nat) (key k : Int) (W : World) (c0 : W.cell? ⟨B, 0, none⟩ = some (Value.int .i64 k)) :
    Calls Try.prog 176 #[Value.int .i64 key, .pointer (some ⟨B, 0, none⟩)] W fun e w' => e = .returned (.bool (ltI k key)) ∧ w' = W := by
  go_enter Try.func176, Try.ntmps176
  go_wp2
  go_ret
  exact ⟨by simp [ltI], rfl⟩

set_option maxHeartbeats 800000 in
set_option maxRecDepth 100000 in
theorem searchA {W : World} {base b : Nat} {p : Option Addr} {c : Nat} {l : List (Int × ByteArray)} (h : MapA W base b p c l) (hn : l.length ≤ 1000000) (gb : Nat) (cb : Array Value) (q : Int → Bool) (r : Nat)
    (eg : ∀ args w, (callFunc gb args).run Try.prog w = .ok (.enter gb args) w)
    (hcall : ∀ W' key, Below W.heap.size W W' → Calls Try.prog gb (#[Value.int .i64 key] ++ cb) W' fun e w' => e = .returned (.bool (q key)) ∧ w' = W')
    (hr : r ≤ l.length) (hq : ∀ j x, l[j]? = some x → q x.1 = decide (r ≤ j)) :
    Calls Try.prog 175 #[.pointer (some ⟨b, 0, none⟩), .func (.func gb) #[] cb] W fun e w' => e = .returned (.int .i64 r) ∧ Below W.heap.size W w' := by
  have HC := Lib.hid hcall
  have HQ := Lib.hid hq
  have H := Lib.hid h
  clear hcall hq h
  have hl := listA (H.out.below ((Below.refl _ W).alloc (Nat.le_refl _) (.cells #[.func (.func gb) #[] cb] 235)))
  go_enter Try.func175, Try.ntmps175
  go_wp2_with (go_at_call 181; refine hl.mono ?_; rintro e w' ⟨rfl, rfl⟩)
  have hB1 : Below W.heap.size W ((W.alloc (.cells #[.func (.func gb) #[] cb] 235)).alloc (.cells #[.slice p l.length c] 228)) := ((Below.refl _ W).alloc (Nat.le_refl _) _).alloc (by simp) _
  obtain ⟨W0, hW0⟩ : ∃ W0, W0 = (W.alloc (.cells #[.func (.func gb) #[] cb] 235)).alloc (.cells #[.slice p l.length c] 228) := ⟨_, rfl⟩
  have hsz : W0.heap.size = W.heap.size + 1 + 1 := by rw [hW0]; simp
  have k0 : W0.heap[W.heap.size]? = some (.cells #[.func (.func gb) #[] cb] 235 (0, 0)) := by rw [hW0, Below.heap_alloc _ _ _ (by simp)]; exact heap_alloc_new W _
  have k1 : W0.heap[W.heap.size + 1]? = some (.cells #[.slice p l.length c] 228 (0, 0)) := by
    rw [hW0]
    have := heap_alloc_new (W.alloc (.cells #[.func (.func gb) #[] cb] 235)) (.cells #[.slice p l.length c] 228)
    rwa [World.size_alloc] at this
  rw [← hW0] at hB1 ⊢
  refine (search_any 222 #[.pointer (some ⟨W.heap.size, 0, none⟩), .pointer (some ⟨W.heap.size + 1, 0, none⟩)] l.length r (fun i => decide (r ≤ i)) W0 (enters_of Try.func222 (by kernel_rfl) rfl) hn ?_ hr (fun t ht => by simpa using ht) (fun t h1 _ => by simpa using h1)).mono ?_
  · intro W' i hb hi
    obtain ⟨x, hx⟩ : ∃ x, l[i]? = some x := ⟨_, List.getElem?_eq_getElem hi⟩
    have hM := (H.out.below hB1).below hb
    obtain ⟨g, rfl, hc, hk, hv⟩ := hM.at hx
    have hbw := hb.size
    have := srchCloA W.heap.size (W.heap.size + 1) gb cb g l.length c i x.1 (q x.1) W' hi
      (by simp only [World.cell?, hb.block W.heap.size (by omega), k0]; rfl) (by simp only [World.cell?, hb.block (W.heap.size + 1) (by omega), k1]; rfl) hk eg
      (fun m => HC.out _ x.1 (Below.drewN' _ (hB1.trans (hb.mono (by omega)))))
    rw [HQ.out i x hx] at this
    exact this
  · rintro e w' ⟨rfl, hb⟩
    go_wp2
    go_ret
    exact ⟨rfl, hB1.trans (hb.mono (by omega))⟩

set_option maxHeartbeats 800000 in
set_option maxRecDepth 100000 in
theorem rankA {W : World} {base b : Nat} {p : Option Addr} {c : Nat} {l : List (Int × ByteArray)} (h : MapA W base b p c l) (hn : l.length ≤ 1000000) (k : Int) :
    Calls Try.prog 90 #[.pointer (some ⟨b, 0, none⟩), Value.int .i64 k] W fun e w' => e = .returned (.int .i64 (kRank ltI l k : Nat)) ∧ Below W.heap.size W w' := by
  have hB : Below W.heap.size W (W.alloc (.cells #[Value.int .i64 k] 3)) := (Below.refl _ W).alloc (Nat.le_refl _) _
  have k0 : (W.alloc (.cells #[Value.int .i64 k] 3)).heap[W.heap.size]? = some (.cells #[Value.int .i64 k] 3 (0, 0)) := heap_alloc_new W _
  have hs := searchA (h.below hB) hn 183 #[.pointer (some ⟨W.heap.size, 0, none⟩)] (fun key => !ltI key k) (kRank ltI l k) (enters_of Try.func183 (by kernel_rfl) rfl)
    (fun W' key hb => rankCloA W.heap.size key k W' (by simp only [World.cell?, hb.block W.heap.size (by simp), k0]; rfl)) (kRank_le _ _ _)
    (fun j x hx => by rw [kRank_iff ordI k h.srt j x hx]; by_cases hj : j < kRank ltI l k <;> simp [hj] <;> omega)
  clear h k0
  generalize kRank ltI l k = r at *
  go_enter Try.func90, Try.ntmps90
  go_wp2_with (go_at_call 175; refine hs.mono ?_; rintro e w' ⟨rfl, hb⟩)
  go_ret
  exact ⟨rfl, hB.trans (hb.mono (by simp))⟩
end Go.Proofs.Ytpnhklehpilopaa
