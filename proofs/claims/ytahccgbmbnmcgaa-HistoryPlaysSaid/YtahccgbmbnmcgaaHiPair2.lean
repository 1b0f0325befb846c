/- HistoryPlays: the calls on a list and on the document's list that holds the same. -/
import Derived.Test.YtahccgbmbnmcgaaHiPair
namespace Go.Proofs.Ytahccgbmbnmcgaa
open Go Go.RowKit

/-- Both are nil, or they hold the same, at most i elements. -/
def Pair (F : Nat → Prop) (W : World) (i : Nat) (v v2 : Option Addr) : Prop :=
  (v = none ∧ v2 = none) ∨ ∃ b p c b2 p2 c2 lim m l, v = some ⟨b, 0, none⟩ ∧ v2 = some ⟨b2, 0, none⟩ ∧ Two F W b p c b2 p2 c2 lim m l ∧ l.length ≤ i

section
variable {F : Nat → Prop} {W : World} {i : Nat} {v v2 : Option Addr}

theorem Pair.below {w' : World} (h : Pair F W i v v2) (hb : Below W.heap.size W w') : Pair F w' i v v2 :=
  h.imp id fun ⟨b, p, c, b2, p2, c2, lim, m, l, h1, h2, h3, h4⟩ => ⟨b, p, c, b2, p2, c2, lim, m, l, h1, h2, h3.below hb, h4⟩
theorem Pair.weak {G : Nat → Prop} (h : Pair F W i v v2) (hG : ∀ k, k < W.heap.size → G k → F k) : Pair G W i v v2 :=
  h.imp id fun ⟨b, p, c, b2, p2, c2, lim, m, l, h1, h2, h3, h4⟩ => ⟨b, p, c, b2, p2, c2, lim, m, l, h1, h2, h3.weak hG, h4⟩
theorem Pair.more {j : Nat} (h : Pair F W i v v2) (hj : i ≤ j) : Pair F W j v v2 :=
  h.imp id fun ⟨b, p, c, b2, p2, c2, lim, m, l, h1, h2, h3, h4⟩ => ⟨b, p, c, b2, p2, c2, lim, m, l, h1, h2, h3, Nat.le_trans h4 hj⟩
theorem Pair.nils (F : Nat → Prop) (W : World) (i : Nat) : Pair F W i none none := .inl ⟨rfl, rfl⟩
/-- Where F and G share no block and the list is apart from G's complement. -/
theorem Pair.keep {G : Nat → Prop} {w' : World} (h : Pair F W i v v2) (hk : Kp G W w') (hG : ∀ k, k < W.heap.size → ¬ F k → G k) : Pair F w' i v v2 :=
  h.imp id fun ⟨b, p, c, b2, p2, c2, lim, m, l, h1, h2, h3, h4⟩ => ⟨b, p, c, b2, p2, c2, lim, m, l, h1, h2, h3.keep hk (fun k hk' => hG k (h3.lt hk') (h3.free k hk')), h4⟩

/-- What the second of two calls finds and leaves. -/
def Then2 (F : Nat → Prop) (W : World) (w' : World) (f : FuncId) (args : Array Value) (R : Value → Prop) (i : Nat) (v v2 : Option Addr) : Prop :=
  ∀ q, Calls Try.prog f args (w'.drewN q) fun e w'' => (∃ r, e = .returned r ∧ R r) ∧ Hid (Pair F w'' i v v2 ∧ Kp F W w'')

theorem Touch.drewN' {b : Nat} {p : Option Addr} {A B : World} (h : Touch b p A B) (q : Nat) : Touch b p A (B.drewN q) := h.trans (Touch.of_below (Below.drewN' q (Below.refl _ _)))

theorem shows2 (h : Pair F W i v v2) (hi : i < 1000) (k : Int) :
    Calls Try.prog 23 #[.pointer v, .pointer v2, .int .i64 k] W fun e w' => e = .returned (.bool true) ∧ Hid (Below W.heap.size W w') := by
  rcases h with ⟨rfl, rfl⟩ | ⟨b, p, c, b2, p2, c2, lim, m, l, rfl, rfl, h, hl⟩
  · exact showsN (badNilS W) k W (Below.refl _ _)
  · exact showsV h.hl h.rl (by omega) k

theorem add2 (h : Pair F W i v v2) (hF : ∀ k, F k → k < W.heap.size) (x : ByteArray) : ∃ e0 : Nat,
    Calls Try.prog 13 #[.pointer v, .string x] W fun e w' => e = .returned (.int .i64 (e0 : Nat)) ∧ Hid (Kp F W w') ∧
      Hid (Then2 F W w' 14 #[.pointer v2, .string x] (fun r => r = .int .i64 (e0 : Nat)) (i + 1) v v2) := by
  rcases h with ⟨rfl, rfl⟩ | ⟨b, p, c, b2, p2, c2, lim, m, l, rfl, rfl, h, hl⟩
  · refine ⟨1, (addNS (badNilS W) x W (Below.refl _ _)).mono fun e w' ⟨he, hw⟩ => ?_⟩
    subst hw
    exact ⟨he, Lib.hid (Kp.of_below (Below.refl _ _)), Lib.hid fun q => (raddN x _).mono fun e2 w2 ⟨h1, h2⟩ => ⟨⟨_, h1, rfl⟩, Lib.hid ⟨Pair.nils _ _ _, by subst h2; exact Kp.of_below (Below.drewN' q (Below.refl _ _))⟩⟩⟩
  · by_cases hlt : l.length < lim
    · refine ⟨0, (addS h.hl hlt x).mono fun e w' ⟨he, p', c', hL, hT, hH⟩ => ⟨he, Lib.hid (Kp.touch hT (fun k hk => h.free k (.inl hk))), Lib.hid fun q => ?_⟩⟩
      have hTq := hT.drewN' q
      refine (radd (h.mid hTq) hlt x).mono fun e2 w2 ⟨h1, p2', c2', hR, hT2, hp2⟩ => ⟨⟨_, h1, rfl⟩, Lib.hid ?_⟩
      obtain ⟨k1, k2⟩ := h.step hF (hL.below (Below.drewN' q (Below.refl _ _))) hTq hH hR hT2 (.inl hp2)
      exact ⟨.inr ⟨_, _, _, _, _, _, _, _, _, rfl, rfl, k1, by simp; omega⟩, k2⟩
    · have hfull : l.length = lim := by have := h.hl.ll; omega
      refine ⟨4, (addFullS h.hl hfull x).mono fun e w' ⟨he, hb⟩ => ⟨he, Lib.hid (Kp.of_below hb), Lib.hid fun q => ?_⟩⟩
      have hbq : Below W.heap.size W (w'.drewN q) := Below.drewN' q hb
      refine (raddFull (h.below hbq).rl hfull x).mono fun e2 w2 ⟨h1, hb2⟩ => ⟨⟨_, h1, rfl⟩, Lib.hid ?_⟩
      have hb3 := hbq.trans (hb2.mono hbq.size)
      exact ⟨.inr ⟨_, _, _, _, _, _, _, _, _, rfl, rfl, h.below hb3, by omega⟩, Kp.of_below hb3⟩

theorem cut2 (h : Pair F W i v v2) (hF : ∀ k, F k → k < W.heap.size) (n : Int) : ∃ e0 : Nat,
    Calls Try.prog 17 #[.pointer v, .int .i64 n] W fun e w' => e = .returned (.int .i64 (e0 : Nat)) ∧ Hid (Kp F W w') ∧
      Hid (Then2 F W w' 18 #[.pointer v2, .int .i64 n] (fun r => r = .int .i64 (e0 : Nat)) i v v2) := by
  rcases h with ⟨rfl, rfl⟩ | ⟨b, p, c, b2, p2, c2, lim, m, l, rfl, rfl, h, hl⟩
  · refine ⟨1, (cutNS (badNilS W) n W (Below.refl _ _)).mono fun e w' ⟨he, hw⟩ => ?_⟩
    subst hw
    exact ⟨he, Lib.hid (Kp.of_below (Below.refl _ _)), Lib.hid fun q => (rcutN n _).mono fun e2 w2 ⟨h1, h2⟩ => ⟨⟨_, h1, rfl⟩, Lib.hid ⟨Pair.nils _ _ _, by subst h2; exact Kp.of_below (Below.drewN' q (Below.refl _ _))⟩⟩⟩
  · by_cases hn : n < (m : Int) ∨ (l.length : Int) < n
    · refine ⟨3, (cutBadS h.hl n hn).mono fun e w' ⟨he, hw⟩ => ?_⟩
      subst hw
      refine ⟨he, Lib.hid (Kp.of_below (Below.refl _ _)), Lib.hid fun q => ?_⟩
      have hbq : Below w'.heap.size w' (w'.drewN q) := Below.drewN' q (Below.refl _ _)
      refine (rcutBad (h.below hbq).rl n hn).mono fun e2 w2 ⟨h1, h2⟩ => ⟨⟨_, h1, rfl⟩, Lib.hid ?_⟩
      subst h2
      exact ⟨.inr ⟨_, _, _, _, _, _, _, _, _, rfl, rfl, h.below hbq, hl⟩, Kp.of_below hbq⟩
    · obtain ⟨j, rfl⟩ : ∃ j : Nat, n = j := ⟨n.toNat, by omega⟩
      refine ⟨0, (cutS h.hl j (by omega) (by omega)).mono fun e w' ⟨he, hL, hT⟩ => ⟨he, Lib.hid (Kp.touch hT (fun k hk => h.free k (.inl hk))), Lib.hid fun q => ?_⟩⟩
      have hTq := hT.drewN' q
      refine (rcut (h.mid hTq) j (by omega) (by omega)).mono fun e2 w2 ⟨h1, p2', c2', hR, hT2, hp2⟩ => ⟨⟨_, h1, rfl⟩, Lib.hid ?_⟩
      obtain ⟨k1, k2⟩ := h.step hF (hL.below (Below.drewN' q (Below.refl _ _))) hTq (Head.refl _ _) hR hT2 (.inl hp2)
      exact ⟨.inr ⟨_, _, _, _, _, _, _, _, _, rfl, rfl, k1, by rw [List.length_take]; omega⟩, k2⟩

theorem mark2 (h : Pair F W i v v2) (hF : ∀ k, F k → k < W.heap.size) :
    Calls Try.prog 15 #[.pointer v] W fun e w' => (∃ r, e = .returned r) ∧ Hid (Kp F W w') ∧
      Hid (Then2 F W w' 16 #[.pointer v2] (fun _ => True) i v v2) := by
  rcases h with ⟨rfl, rfl⟩ | ⟨b, p, c, b2, p2, c2, lim, m, l, rfl, rfl, h, hl⟩
  · refine (markNS (badNilS W) W (Below.refl _ _)).mono fun e w' ⟨he, hw⟩ => ?_
    subst hw
    exact ⟨he, Lib.hid (Kp.of_below (Below.refl _ _)), Lib.hid fun q => (rmarkN _).mono fun e2 w2 ⟨⟨r, h1⟩, h2⟩ => ⟨⟨r, h1, trivial⟩, Lib.hid ⟨Pair.nils _ _ _, by subst h2; exact Kp.of_below (Below.drewN' q (Below.refl _ _))⟩⟩⟩
  · refine (markS h.hl).mono fun e w' ⟨he, hL, hT⟩ => ⟨he, Lib.hid (Kp.touch hT (fun k hk => h.free k (.inl hk))), Lib.hid fun q => ?_⟩
    have hTq := hT.drewN' q
    refine (rmark (h.mid hTq)).mono fun e2 w2 ⟨⟨r, h1⟩, hR, hT2⟩ => ⟨⟨r, h1, trivial⟩, Lib.hid ?_⟩
    obtain ⟨k1, k2⟩ := h.step hF (hL.below (Below.drewN' q (Below.refl _ _))) hTq (Head.refl _ _) hR hT2 (.inr rfl)
    exact ⟨.inr ⟨_, _, _, _, _, _, _, _, _, rfl, rfl, k1, hl⟩, k2⟩

theorem clear2 (h : Pair F W i v v2) (hF : ∀ k, F k → k < W.heap.size) :
    Calls Try.prog 19 #[.pointer v] W fun e w' => (∃ r, e = .returned r) ∧ Hid (Kp F W w') ∧
      Hid (Then2 F W w' 20 #[.pointer v2] (fun _ => True) i v v2) := by
  rcases h with ⟨rfl, rfl⟩ | ⟨b, p, c, b2, p2, c2, lim, m, l, rfl, rfl, h, hl⟩
  · refine (clearNS (badNilS W) W (Below.refl _ _)).mono fun e w' ⟨he, hw⟩ => ?_
    subst hw
    exact ⟨he, Lib.hid (Kp.of_below (Below.refl _ _)), Lib.hid fun q => (rclearN _).mono fun e2 w2 ⟨⟨r, h1⟩, h2⟩ => ⟨⟨r, h1, trivial⟩, Lib.hid ⟨Pair.nils _ _ _, by subst h2; exact Kp.of_below (Below.drewN' q (Below.refl _ _))⟩⟩⟩
  · refine (clearS h.hl).mono fun e w' ⟨he, hL, hT⟩ => ⟨he, Lib.hid (Kp.touch hT (fun k hk => h.free k (.inl hk))), Lib.hid fun q => ?_⟩
    have hTq := hT.drewN' q
    refine (rclear (h.mid hTq)).mono fun e2 w2 ⟨⟨r, h1⟩, hR, hT2⟩ => ⟨⟨r, h1, trivial⟩, Lib.hid ?_⟩
    obtain ⟨k1, k2⟩ := h.step hF (hL.below (Below.drewN' q (Below.refl _ _))) hTq (fun a ha => by cases ha) hR hT2 (.inl fun a ha => by cases ha)
    exact ⟨.inr ⟨_, _, _, _, _, _, _, _, _, rfl, rfl, k1, Nat.zero_le _⟩, k2⟩

/-- Copy: the copies are new, and apart from all that was there. -/
theorem copy2 (h : Pair F W i v v2) :
    Calls Try.prog 21 #[.pointer v] W fun e w' => ∃ u, e = .returned (.pointer u) ∧ Hid (Below W.heap.size W w') ∧
      Hid (∀ q, Calls Try.prog 22 #[.pointer v2] (w'.drewN q) fun e w'' => ∃ u2, e = .returned (.pointer u2) ∧ Hid (Pair (fun k => k < W.heap.size) w'' i u u2 ∧ Below W.heap.size W w'')) := by
  rcases h with ⟨rfl, rfl⟩ | ⟨b, p, c, b2, p2, c2, lim, m, l, rfl, rfl, h, hl⟩
  · refine (copyNS (badNilS W) W (Below.refl _ _)).mono fun e w' ⟨he, hw⟩ => ?_
    subst hw
    exact ⟨_, he, Lib.hid (Below.refl _ _), Lib.hid fun q => (rcopyN _).mono fun e2 w2 ⟨h1, h2⟩ => ⟨_, h1, Lib.hid ⟨Pair.nils _ _ _, by subst h2; exact Below.drewN' q (Below.refl _ _)⟩⟩⟩
  · refine (copyS h.hl).mono fun e w' ⟨d, u, c', he, hL, hb, hd, hu⟩ => ⟨_, he, Lib.hid hb, Lib.hid fun q => ?_⟩
    have hbq : Below W.heap.size W (w'.drewN q) := Below.drewN' q hb
    have hLq := hL.below (Below.drewN' q (Below.refl _ _))
    refine (rcopy (h.below hbq).rl).mono fun e2 w2 ⟨d2, u2, c2', h1, hR, hb2, hd2, hu2⟩ => ⟨_, h1, Lib.hid ⟨.inr ⟨_, _, _, _, _, _, _, _, _, rfl, rfl, ⟨hLq.below hb2, hR, ?_, ?_⟩, hl⟩, hbq.trans (hb2.mono hbq.size)⟩⟩
    · intro k hk hk'
      have h1 : k < (w'.drewN q).heap.size := by
        rcases hk with rfl | ⟨a, ha, rfl⟩
        · exact hLq.lt
        · exact hLq.own ha
      have h2 : (w'.drewN q).heap.size ≤ k := by
        rcases hk' with rfl | ⟨a, ha, rfl⟩
        · exact hd2
        · exact hu2 a ha
      omega
    · intro k hk
      have hs := hbq.size
      show ¬ k < W.heap.size
      rcases hk with (rfl | ⟨a, ha, rfl⟩) | (rfl | ⟨a, ha, rfl⟩)
      · omega
      · have := hu a ha; omega
      · omega
      · have := hu2 a ha; omega
end
end Go.Proofs.Ytahccgbmbnmcgaa
