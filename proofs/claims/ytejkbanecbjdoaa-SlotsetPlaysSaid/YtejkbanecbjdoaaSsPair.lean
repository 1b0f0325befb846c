/- A set and the document's set that holds the same, side by side; the calls on both. -/
import Derived.Test.YtejkbanecbjdoaaSsRef3
import Derived.Test.YtejkbanecbjdoaaSsBad
namespace Go.Proofs.Ytejkbanecbjdoaa
open Go Go.RowKit

/-- Only blocks of F are changed. -/
structure Kc (F : Nat → Prop) (W W' : World) : Prop where
  os : W'.os = W.os
  tape : W'.tape = W.tape
  output : W'.output = W.output
  size : W.heap.size ≤ W'.heap.size
  block : ∀ k, k < W.heap.size → ¬ F k → W'.heap[k]? = W.heap[k]?

/-- Both nil, or a set and the document's set that hold the same, in blocks of F. -/
def Pair (W : World) (v r : Option Addr) (F : Nat → Prop) : Prop :=
  (v = none ∧ r = none) ∨ ∃ b rb bi c n f, v = some ⟨b, 0, none⟩ ∧ r = some ⟨rb, 0, none⟩ ∧ SetAt W b n f ∧ RefAt W rb bi c n f ∧ b ≠ rb ∧ b ≠ bi ∧ F b ∧ F rb ∧ F bi

section
variable {F G : Nat → Prop} {W W' W'' : World} {v r t u : Option Addr}

theorem Kc.refl (F : Nat → Prop) (W : World) : Kc F W W := ⟨rfl, rfl, rfl, Nat.le_refl _, fun _ _ _ => rfl⟩
theorem Kc.trans (h : Kc F W W') (k : Kc F W' W'') : Kc F W W'' :=
  ⟨k.os.trans h.os, k.tape.trans h.tape, k.output.trans h.output, Nat.le_trans h.size k.size, fun j hj hF => (k.block j (by have := h.size; omega) hF).trans (h.block j hj hF)⟩
theorem Kc.of_below (h : Below W.heap.size W W') : Kc F W W' := ⟨h.os, h.tape, h.output, h.size, fun k hk _ => h.block k hk⟩
theorem Kc.of_only {b : Nat} (h : Only b W W') (hb : F b) : Kc F W W' := ⟨h.os, h.tape, h.output, h.size, fun k hk hF => h.block k hk (fun e => hF (e ▸ hb))⟩
theorem Kc.below {N : Nat} (h : Kc F W W') (hF : ∀ k, F k → N ≤ k) (hN : N ≤ W.heap.size) : Below N W W' := ⟨h.os, h.tape, h.output, h.size, fun k hk => h.block k (by omega) (fun hk2 => by have := hF k hk2; omega)⟩
theorem Kc.weak (h : Kc F W W') (hFG : ∀ k, F k → G k) : Kc G W W' := ⟨h.os, h.tape, h.output, h.size, fun k hk hG => h.block k hk (fun hF => hG (hFG k hF))⟩

theorem Pair.nils (W : World) (F : Nat → Prop) : Pair W none none F := .inl ⟨rfl, rfl⟩
theorem Pair.weak (h : Pair W v r F) (hFG : ∀ k, k < W.heap.size → F k → G k) : Pair W v r G := by
  rcases h with h | ⟨b, rb, bi, c, n, f, h1, h2, hS, hR, h3, h4, h5, h6, h7⟩
  · exact .inl h
  · exact .inr ⟨b, rb, bi, c, n, f, h1, h2, hS, hR, h3, h4, hFG _ hS.lt h5, hFG _ hR.lt h6, hFG _ hR.row.lt h7⟩
theorem Pair.keep (h : Pair W v r F) (hk : Kc G W W') (hFG : ∀ k, F k → ¬ G k) : Pair W' v r F := by
  rcases h with h | ⟨b, rb, bi, c, n, f, h1, h2, hS, hR, h3, h4, h5, h6, h7⟩
  · exact .inl h
  · exact .inr ⟨b, rb, bi, c, n, f, h1, h2, hS.same (hk.block _ hS.lt (hFG _ h5)), hR.same (hk.block _ hR.lt (hFG _ h6)) (hk.block _ hR.row.lt (hFG _ h7)), h3, h4, h5, h6, h7⟩
theorem Pair.below (h : Pair W v r F) (hb : Below W.heap.size W W') : Pair W' v r F := h.keep (G := fun _ => False) (Kc.of_below hb) (fun _ _ h => h)

/-- A call on a set, and behind it the same on the document's, with the same answer; then the two hold the same again. -/
def Then2 (F : Nat → Prop) (W : World) (v r : Option Addr) (fn gn : FuncId) (x y : Array Value) : Prop :=
  ∃ ea : Int, Calls Try.prog fn x W fun e w' => e = .returned (.int .i64 ea) ∧ Hid (Kc F W w' ∧ Calls Try.prog gn y w' fun e2 w'' => e2 = .returned (.int .i64 ea) ∧ Hid (Pair w'' v r F ∧ Kc F W w''))

theorem Pair.then (h : Pair W v r F) {fn gn : FuncId} {x y : Array Value} {ea : Int} (h1 : Calls Try.prog fn x W fun e w' => e = .returned (.int .i64 ea) ∧ Below W.heap.size W w') (h2 : ∀ w', Below W.heap.size W w' → Calls Try.prog gn y w' fun e w'' => e = .returned (.int .i64 ea) ∧ Below w'.heap.size w' w'') : Then2 F W v r fn gn x y :=
  ⟨ea, h1.mono fun e w' ⟨he, hb⟩ => ⟨he, Lib.hid ⟨Kc.of_below hb, (h2 w' hb).mono fun e2 w'' ⟨he2, hb2⟩ => ⟨he2, Lib.hid (by
    have hb3 : Below W.heap.size W w'' := hb.trans (hb2.mono hb.size)
    exact ⟨h.below hb3, Kc.of_below hb3⟩)⟩⟩⟩⟩

theorem same_below {w' : World} (h : w' = W) : Below W.heap.size W w' := by subst h; exact Below.refl _ _

theorem add2 (h : Pair W v r F) (i : Int) : Then2 F W v r 15 16 #[.pointer v, .int .i64 i] #[.pointer r, .int .i64 i] := by
  have h0 := h
  rcases h with ⟨rfl, rfl⟩ | ⟨b, rb, bi, c, n, f, rfl, rfl, hS, hR, h3, h4, h5, h6, h7⟩
  · exact h0.then ((addV (void_nil W) i).mono fun e w' ⟨he, hw⟩ => ⟨he, same_below hw⟩) (fun w' _ => (radd_of (rsetN i true w')).mono fun e w'' ⟨he, hw⟩ => ⟨he, same_below hw⟩)
  · by_cases hi : i < 0 ∨ (n : Int) ≤ i
    · exact h0.then ((addOutS hS i hi).mono fun e w' ⟨he, hw⟩ => ⟨he, same_below hw⟩) (fun w' hb => (radd_of (rsetOut (hR.below hb) i hi true)).mono fun e w'' ⟨he, hw⟩ => ⟨he, same_below hw⟩)
    · obtain ⟨k, rfl⟩ : ∃ k : Nat, i = k := ⟨i.toNat, by omega⟩
      have hk : k < n := by omega
      refine ⟨0, (addS hS k hk).mono fun e w' ⟨he, hS1, ho⟩ => ⟨he, Lib.hid ⟨Kc.of_only ho h5, ?_⟩⟩⟩
      have hR1 : RefAt w' rb bi c n f := hR.same (ho.block _ hR.lt (fun e => h3 e.symm)) (ho.block _ hR.row.lt (fun e => h4 e.symm))
      refine (radd_of (rset hR1 k hk true)).mono fun e2 w2 ⟨he2, hR2, ho2⟩ => ⟨he2, Lib.hid ⟨.inr ⟨b, rb, bi, c, n, _, rfl, rfl, hS1.other ho2 h4, hR2, h3, h4, h5, h6, h7⟩, (Kc.of_only ho h5).trans (Kc.of_only ho2 h7)⟩⟩

theorem remove2 (h : Pair W v r F) (i : Int) : Then2 F W v r 17 18 #[.pointer v, .int .i64 i] #[.pointer r, .int .i64 i] := by
  have h0 := h
  rcases h with ⟨rfl, rfl⟩ | ⟨b, rb, bi, c, n, f, rfl, rfl, hS, hR, h3, h4, h5, h6, h7⟩
  · exact h0.then ((removeV (void_nil W) i).mono fun e w' ⟨he, hw⟩ => ⟨he, same_below hw⟩) (fun w' _ => (rremove_of (rsetN i false w')).mono fun e w'' ⟨he, hw⟩ => ⟨he, same_below hw⟩)
  · by_cases hi : i < 0 ∨ (n : Int) ≤ i
    · exact h0.then ((removeOutS hS i hi).mono fun e w' ⟨he, hw⟩ => ⟨he, same_below hw⟩) (fun w' hb => (rremove_of (rsetOut (hR.below hb) i hi false)).mono fun e w'' ⟨he, hw⟩ => ⟨he, same_below hw⟩)
    · obtain ⟨k, rfl⟩ : ∃ k : Nat, i = k := ⟨i.toNat, by omega⟩
      have hk : k < n := by omega
      refine ⟨0, (removeS hS k hk).mono fun e w' ⟨he, hS1, ho⟩ => ⟨he, Lib.hid ⟨Kc.of_only ho h5, ?_⟩⟩⟩
      have hR1 : RefAt w' rb bi c n f := hR.same (ho.block _ hR.lt (fun e => h3 e.symm)) (ho.block _ hR.row.lt (fun e => h4 e.symm))
      refine (rremove_of (rset hR1 k hk false)).mono fun e2 w2 ⟨he2, hR2, ho2⟩ => ⟨he2, Lib.hid ⟨.inr ⟨b, rb, bi, c, n, _, rfl, rfl, hS1.other ho2 h4, hR2, h3, h4, h5, h6, h7⟩, (Kc.of_only ho h5).trans (Kc.of_only ho2 h7)⟩⟩

theorem union2 (h : Pair W v r F) (ht : Pair W t u G) (hFG : ∀ k, F k → ¬ G k) : Then2 F W v r 19 20 #[.pointer v, .pointer t] #[.pointer r, .pointer u] := by
  have h0 := h
  rcases h with ⟨rfl, rfl⟩ | ⟨b, rb, bi, c, n, f, rfl, rfl, hS, hR, h3, h4, h5, h6, h7⟩
  · exact h0.then ((unionV (void_nil W) t).mono fun e w' ⟨he, hw⟩ => ⟨he, same_below hw⟩) (fun w' _ => (runion_of (rtakeN1 w' u true)).mono fun e w'' ⟨he, hw⟩ => ⟨he, same_below hw⟩)
  · rcases ht with ⟨rfl, rfl⟩ | ⟨b2, rb2, bi2, c2, n2, g, rfl, rfl, hT, hU, k3, k4, k5, k6, k7⟩
    · exact h0.then ((union2V (void_nil W) hS).mono fun e w' ⟨he, hw⟩ => ⟨he, same_below hw⟩) (fun w' hb => (runion_of (rtakeN2 (hR.below hb) true)).mono fun e w'' ⟨he, hw⟩ => ⟨he, same_below hw⟩)
    · by_cases hn : n = n2
      · subst hn
        refine ⟨0, (unionS hS hT).mono fun e w' ⟨he, hS1, ho⟩ => ⟨he, Lib.hid ⟨Kc.of_only ho h5, ?_⟩⟩⟩
        have hR1 : RefAt w' rb bi c n f := hR.same (ho.block _ hR.lt (fun e => h3 e.symm)) (ho.block _ hR.row.lt (fun e => h4 e.symm))
        have hU1 : RefAt w' rb2 bi2 c2 n g := hU.same (ho.block _ hU.lt (fun e => hFG _ h5 (e ▸ k6))) (ho.block _ hU.row.lt (fun e => hFG _ h5 (e ▸ k7)))
        refine (runion_of (rtake hR1 hU1 true)).mono fun e2 w2 ⟨he2, hR2, ho2⟩ => ⟨he2, Lib.hid ⟨.inr ⟨b, rb, bi, c, n, _, rfl, rfl, (hS1.other ho2 h4).congr (fun j _ => by cases g j <;> simp), hR2, h3, h4, h5, h6, h7⟩, (Kc.of_only ho h5).trans (Kc.of_only ho2 h7)⟩⟩
      · exact h0.then (unionOutS hS hT hn) (fun w' hb => runion_of (rtakeOut (hR.below hb) (hU.below hb) hn true))

theorem minus2 (h : Pair W v r F) (ht : Pair W t u G) (hFG : ∀ k, F k → ¬ G k) : Then2 F W v r 21 22 #[.pointer v, .pointer t] #[.pointer r, .pointer u] := by
  have h0 := h
  rcases h with ⟨rfl, rfl⟩ | ⟨b, rb, bi, c, n, f, rfl, rfl, hS, hR, h3, h4, h5, h6, h7⟩
  · exact h0.then ((minusV (void_nil W) t).mono fun e w' ⟨he, hw⟩ => ⟨he, same_below hw⟩) (fun w' _ => (rminus_of (rtakeN1 w' u false)).mono fun e w'' ⟨he, hw⟩ => ⟨he, same_below hw⟩)
  · rcases ht with ⟨rfl, rfl⟩ | ⟨b2, rb2, bi2, c2, n2, g, rfl, rfl, hT, hU, k3, k4, k5, k6, k7⟩
    · exact h0.then ((minus2V (void_nil W) hS).mono fun e w' ⟨he, hw⟩ => ⟨he, same_below hw⟩) (fun w' hb => (rminus_of (rtakeN2 (hR.below hb) false)).mono fun e w'' ⟨he, hw⟩ => ⟨he, same_below hw⟩)
    · by_cases hn : n = n2
      · subst hn
        refine ⟨0, (minusS hS hT).mono fun e w' ⟨he, hS1, ho⟩ => ⟨he, Lib.hid ⟨Kc.of_only ho h5, ?_⟩⟩⟩
        have hR1 : RefAt w' rb bi c n f := hR.same (ho.block _ hR.lt (fun e => h3 e.symm)) (ho.block _ hR.row.lt (fun e => h4 e.symm))
        have hU1 : RefAt w' rb2 bi2 c2 n g := hU.same (ho.block _ hU.lt (fun e => hFG _ h5 (e ▸ k6))) (ho.block _ hU.row.lt (fun e => hFG _ h5 (e ▸ k7)))
        refine (rminus_of (rtake hR1 hU1 false)).mono fun e2 w2 ⟨he2, hR2, ho2⟩ => ⟨he2, Lib.hid ⟨.inr ⟨b, rb, bi, c, n, _, rfl, rfl, (hS1.other ho2 h4).congr (fun j _ => by cases g j <;> simp), hR2, h3, h4, h5, h6, h7⟩, (Kc.of_only ho h5).trans (Kc.of_only ho2 h7)⟩⟩
      · exact h0.then (minusOutS hS hT hn) (fun w' hb => rminus_of (rtakeOut (hR.below hb) (hU.below hb) hn false))

/-- The two copies. -/
theorem copy2 (h : Pair W v r F) : ∃ v', Calls Try.prog 23 #[.pointer v] W fun e w' => e = .returned (.pointer v') ∧ Hid (Below W.heap.size W w' ∧
    Calls Try.prog 24 #[.pointer r] w' fun e2 w'' => ∃ r', e2 = .returned (.pointer r') ∧ Hid (Pair w'' v' r' (fun k => W.heap.size ≤ k) ∧ Below W.heap.size W w'')) := by
  rcases h with ⟨rfl, rfl⟩ | ⟨b, rb, bi, c, n, f, rfl, rfl, hS, hR, h3, h4, h5, h6, h7⟩
  · refine ⟨none, (copyV (void_nil W)).mono fun e w' ⟨he, hw⟩ => ⟨he, Lib.hid ⟨same_below hw, (rcopyN w').mono fun e2 w2 ⟨he2, hw2⟩ => ⟨none, he2, Lib.hid ⟨Pair.nils _ _, ?_⟩⟩⟩⟩⟩
    subst hw2; exact same_below hw
  · refine ⟨_, (copyS hS).mono fun e w' ⟨he, hC, hb, hsz⟩ => ⟨he, Lib.hid ⟨hb, ?_⟩⟩⟩
    refine (rcopy (hR.below hb)).mono fun e2 w2 ⟨⟨rb', he2, ⟨bi', c', hR', hl1, hl2⟩⟩, hb2⟩ => ⟨_, he2, Lib.hid ⟨.inr ⟨_, _, _, _, n, f, rfl, rfl, hC.below hb2, hR', ?_, ?_, Nat.le_refl _, ?_, ?_⟩, hb.trans (hb2.mono hb.size)⟩⟩ <;> omega

/-- The two New. -/
theorem new2 (i : Int) (W : World) : ∃ ea : Int, Calls Try.prog 13 #[.int .i64 i] W fun e w' => ∃ v, e = .returned (.tuple #[.pointer v, .int .i64 ea]) ∧ Hid (Below W.heap.size W w' ∧
    Calls Try.prog 14 #[.int .i64 i] w' fun e2 w'' => ∃ r, e2 = .returned (.tuple #[.pointer r, .int .i64 ea]) ∧ Hid (r.isNone = v.isNone ∧ Pair w'' v r (fun k => W.heap.size ≤ k) ∧ Below W.heap.size W w'')) := by
  by_cases hi : i < 1 ∨ 34 < i
  · refine ⟨2, (newBadS W i hi).mono fun e w' ⟨he, hw⟩ => ⟨none, he, Lib.hid ⟨same_below hw, (rnewBad w' i hi).mono fun e2 w2 ⟨he2, hw2⟩ => ⟨none, he2, Lib.hid ⟨rfl, Pair.nils _ _, ?_⟩⟩⟩⟩⟩
    subst hw2; exact same_below hw
  · obtain ⟨n, rfl⟩ : ∃ n : Nat, i = n := ⟨i.toNat, by omega⟩
    refine ⟨0, (newS W n (by omega) (by omega)).mono fun e w' ⟨he, hS, hb, hsz⟩ => ⟨_, he, Lib.hid ⟨hb, ?_⟩⟩⟩
    refine (rnew w' n (by omega) (by omega)).mono fun e2 w2 ⟨⟨rb', he2, ⟨bi', c', hR', hl1, hl2⟩⟩, hb2⟩ => ⟨_, he2, Lib.hid ⟨rfl, .inr ⟨_, _, _, _, n, _, rfl, rfl, hS.below hb2, hR', ?_, ?_, Nat.le_refl _, ?_, ?_⟩, hb.trans (hb2.mono hb.size)⟩⟩ <;> omega
end
end Go.Proofs.Ytejkbanecbjdoaa
