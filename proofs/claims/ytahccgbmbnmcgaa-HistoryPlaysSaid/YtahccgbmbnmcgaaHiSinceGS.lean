/- The same iterator, of a list told by its contracts alone. -/
import Derived.Test.YtahccgbmbnmcgaaHiSinceS
namespace Go.Proofs.Ytahccgbmbnmcgaa
open Go Go.RowKit

attribute [local go_sem] Oper.semAt_some

set_option maxRecDepth 100000 in
set_option maxHeartbeats 3200000 in
theorem sinceGenS (n : Nat) (hn : 3 ≤ n) (bl : Nat) {v : Option Addr} {m N : Nat} {val : Nat → ByteArray} {Qp : World → Prop} (w : World) (hbl : w.cell? ⟨bl, 0, none⟩ = some (.pointer v)) (hml : m ≤ N)
    (hmk : ∀ W', Below w.heap.size w W' → Calls Try.prog 40 #[.pointer v] W' fun e w' => e = .returned (.int .i64 (m : Nat)) ∧ w' = W')
    (hall : ∀ n' bl' X, 1 ≤ n' → Below w.heap.size w X → X.cell? ⟨bl', 0, none⟩ = some (.pointer v) → SeqIdx Fence.wide n' Try.prog 71 #[.pointer (some ⟨bl', 0, none⟩)] (fun i => #[.int .i64 i, Value.string (val i)]) Qp N X) :
    SeqIdx Fence.wide n Try.prog 69 #[.pointer (some ⟨bl, 0, none⟩)] (fun i => #[Value.string (val (m + i))]) Qp (N - m) w := fun lr J Jx W hW hJ hJx hQ hY h0 => by
  have hbl' := (hW.cell (World.block_lt_of_cell? _ _ hbl)).trans hbl
  have hblt : bl < W.heap.size := World.block_lt_of_cell? _ _ hbl'
  have hblA : ∀ o, (W.alloc o).cell? ⟨bl, 0, none⟩ = some (.pointer v) := fun o => (Below.cell ((Below.refl W.heap.size W).alloc (Nat.le_refl _) o) (p := ⟨bl, 0, none⟩) hblt).trans hbl'
  have HMK : Hid (∀ W', Below W.heap.size W W' → Calls Try.prog 40 #[.pointer v] W' fun e w' => e = .returned (.int .i64 (m : Nat)) ∧ w' = W') := Lib.hid fun W' hb => hmk W' (hW.trans (hb.mono hW.size))
  have HL : Hid (∀ n' bl' X, 1 ≤ n' → Below W.heap.size W X → X.cell? ⟨bl', 0, none⟩ = some (.pointer v) → SeqIdx Fence.wide n' Try.prog 71 #[.pointer (some ⟨bl', 0, none⟩)] (fun i => #[.int .i64 i, Value.string (val i)]) Qp N X) := Lib.hid fun n' bl' X h1 hb hc => hall n' bl' X h1 (hW.trans (hb.mono hW.size)) hc
  have HALL := Lib.hid (And.intro hJ (And.intro hJx (And.intro hQ (And.intro hY h0))))
  obtain ⟨S, hS⟩ : ∃ S, S = W.heap.size := ⟨_, rfl⟩
  clear hW hJ hJx hQ hY h0 hbl hmk hall
  have hn1 : 1 ≤ n := by omega
  refine callsIn_of_wp_marks Try.func69 rfl trivial ?_ rfl
  simp only [Try.ntmps69, List.size_toArray, List.length_cons, List.length_nil, Nat.reduceAdd, Nat.reduceSub, Array.replicate_succ, Array.replicate_zero, List.push_toArray, List.append_toArray, List.nil_append, List.cons_append]
  gi_wp2_with fail
  refine ⟨trivial, (callsIn_wide.2 (HMK.out _ ((Below.refl _ _).alloc (Nat.le_refl _) _))).mono ?_⟩
  rintro e W1 ⟨rfl, rfl⟩
  gi_wp2_with fail
  refine ⟨trivial, (callsIn_wide.2 (allMakeS _ _)).mono ?_⟩
  rintro e W2 ⟨rfl, rfl⟩
  gi_wp2_with fail
  obtain ⟨X, hX⟩ : ∃ X, X = ((W.alloc (.cells #[.func (.yield lr) #[] #[]] 108)).alloc (.cells #[.int .i64 (m : Nat)] 3)).alloc (.cells #[.pointer v] 24) := ⟨_, rfl⟩
  have hXs : X.heap.size = S + 3 := by rw [hX, hS]; simp
  have hXb : Below S W X := by rw [hX, hS]; exact (((Below.refl _ _).alloc (Nat.le_refl _) _).alloc (by simp) _).alloc (by simp; omega) _
  have b1 : Boxed X S 108 (.func (.yield lr) #[] #[]) := by rw [hX]; exact ((boxedAtS hS _ _).alloc _).alloc _
  have b2 : Boxed X (S + 1) 3 (.int .i64 (m : Nat)) := by rw [hX]; exact (boxedAtS (by simp [hS]) _ _).alloc _
  have b3 : Boxed X (S + 1 + 1) 24 (.pointer v) := by rw [hX]; exact boxedAtS (by simp [hS]) _ _
  have hseq := HL.out (n - 1) (S + 1 + 1) X (by omega) (by rw [← hS]; exact hXb) b3.cell
  rw [← hX, ← hS]
  rw [← hS] at HALL
  have HS : Hid (W.heap.size ≤ S) := Lib.hid (by rw [hS]; exact Nat.le_refl _)
  clear hX hbl' hblA HMK HL hS hblt
  refine rangeIdx (encs := fun i => #[.int .i64 i, Value.string (val i)]) (fun i T => (((T.setIfInBounds 10 (.int .i64 i)).setIfInBounds 11 (Value.string (val i))).setIfInBounds 4 (.int .i64 i)).setIfInBounds 5 (Value.string (val i))) rfl hn1 (gf := 71) (lb := #[.pointer (some ⟨S + 1 + 1, 0, none⟩)]) rfl trivial (enters_of Try.func71 (by kernel_rfl) rfl)
    hseq (Below.refl _ _) (fun _ => rfl) (fun hi k A => InSince J 108 S lr m hi k A) (fun hi c k A => c = .ret ∧ S ≤ hi ∧ Jx hi (k - m) A)
    (fun hi s A C h _ hs => ⟨HALL.out.1 hi _ A C h.j (by have := h.hi; omega) (hs.widen (by omega) (Nat.le_refl _)), (hs.block S h.b1.lt (.inl (by omega))).trans h.b1, (hs.block (S + 1) h.b2.lt (.inl (by omega))).trans h.b2, h.hi⟩)
    (fun hi c s A C h _ hs => ⟨h.1, h.2.1, HALL.out.2.1 hi _ A C h.2.2 h.2.1 (hs.widen (by omega) (Nat.le_refl _))⟩)
    (fun hi s A h => HALL.out.2.2.1 hi _ A h.j)
    (fun A hA hs => ⟨by rw [Nat.zero_sub]; exact HALL.out.2.2.2.2 A (hXb.trans (hA.mono (by omega))), (hA.block S (by omega)).trans b1, (hA.block (S + 1) (by omega)).trans b2, by omega⟩) ?assign1 ?body1 ?done1 ?stop1
  case assign1 =>
    intro lr' x W' K hK
    gi_wp2
    exact hK
  case body1 =>
    intro lr' hi x W' hhi hI hlt
    have c1 := hI.b1.cell
    have c2 := hI.b2.cell
    simp only [List.setIfInBounds_toArray, List.set_cons_succ, List.set_cons_zero]
    by_cases hmx : m ≤ x
    · have hY := HALL.out.2.2.2.1 hi (x - m) W' (by have := hI.hi; omega) hI.j (by omega)
      obtain ⟨fn, tmps, assign, body, hy, hR⟩ := yieldDepth rfl (n - 1 - 1 - 1) hY
      have he : (#[Value.string (val (m + (x - m)))] : Array Value) = #[Value.string (val x)] := by rw [Nat.add_sub_cancel' hmx]
      rw [he] at hy
      obtain ⟨u, hv⟩ : ∃ u, u = val x := ⟨_, rfl⟩
      rw [← hv] at hy ⊢
      have hd : (m : Int) ≤ (x : Int) := by omega
      have HI := Lib.hid hI
      have HX3 := Lib.hid hXs
      clear hI hv he hXs hXb
      gi_wp2_with fail
      refine ⟨(fun h => by cases h), RoundIn.mono hR ?_⟩
      rintro e W3 (⟨rfl, hJ3, hk3⟩ | ⟨rfl, hJ3, hk3⟩)
      · have hfin : KeepsIn X.heap.size hi W' W3 ∧ InSince J 108 S lr m hi (x + 1) W3 := by
          refine ⟨hk3.narrow (by have := HX3.out; omega), ⟨?_, (hk3.block S (Nat.le_refl _) (by have := HI.out.hi; omega) HI.out.b1.lt).trans HI.out.b1, (hk3.block (S + 1) (by omega) (by have := HI.out.hi; omega) HI.out.b2.lt).trans HI.out.b2, HI.out.hi⟩⟩
          rw [show x + 1 - m = x - m + 1 by omega]
          exact hJ3
        have HF := Lib.hid hfin
        clear hfin hJ3 hk3
        gi_wp2_with fail
        exact HF.out
      · have hfin : KeepsIn X.heap.size hi W' W3 ∧ S ≤ hi ∧ Jx hi (x + 1 - m) W3 := by
          refine ⟨hk3.narrow (by have := HX3.out; omega), by have := HI.out.hi; omega, ?_⟩
          rw [show x + 1 - m = x - m + 1 by omega]
          exact hJ3
        have HF := Lib.hid hfin
        clear hfin hJ3 hk3
        gi_wp2_with fail
        exact ⟨HF.out.1, rfl, HF.out.2⟩
    · have hd : ¬ (m : Int) ≤ (x : Int) := by omega
      obtain ⟨u, hv⟩ : ∃ u, u = val x := ⟨_, rfl⟩
      rw [← hv]
      have hfin : KeepsIn X.heap.size hi W' W' ∧ InSince J 108 S lr m hi (x + 1) W' := by
        refine ⟨KeepsIn.refl _ _ _, ⟨?_, hI.b1, hI.b2, hI.hi⟩⟩
        have := hI.j
        rw [show x - m = 0 by omega] at this
        rw [show x + 1 - m = 0 by omega]
        exact this
      have HF := Lib.hid hfin
      clear hfin hI hv hXs hXb
      gi_wp2_with fail
      refine ⟨(fun f hf => by cases hf), ?_⟩
      gi_wp2_with fail
      exact HF.out
  case done1 =>
    intro D hi W' hD hDh hI hK
    have hp := OwnStep.putObj (lo := S) (hi := hi) W' (.deferred none) hK (by omega) (by omega)
    have hfin : ∃ hi', W.heap.size ≤ hi' ∧ (J hi' (N - m) (W'.putObj D (.deferred none)) ∨ ∃ k, k ≤ N - m ∧ Jx hi' k (W'.putObj D (.deferred none))) := ⟨hi, by have := HS.out; have := hI.hi; omega, .inl (HALL.out.1 hi _ _ _ hI.j (by have := hI.hi; omega) hp)⟩
    have HF := Lib.hid hfin
    clear hfin hI hp
    gi_wp2_with fail
    exact ⟨by simp, .inl ⟨_, _, rfl, run_takeDeferred hK, ⟨_, results_none rfl _ _ _, ⟨_, rfl⟩, HF.out⟩⟩⟩
  case stop1 =>
    rintro D hi c' k W' hD hDh hkN ⟨rfl, hSh, hjx⟩ hK
    have hp := OwnStep.putObj (lo := S) (hi := hi) W' (.deferred none) hK (by omega) (by omega)
    have hfin : ∃ hi', W.heap.size ≤ hi' ∧ (J hi' (N - m) (W'.putObj D (.deferred none)) ∨ ∃ k, k ≤ N - m ∧ Jx hi' k (W'.putObj D (.deferred none))) := ⟨hi, by have := HS.out; omega, .inr ⟨k - m, by omega, HALL.out.2.1 hi _ _ _ hjx hSh hp⟩⟩
    have HF := Lib.hid hfin
    clear hfin hjx hp
    gi_wp2_with fail
    exact ⟨by simp, .inl ⟨_, _, rfl, run_takeDeferred hK, ⟨_, results_none rfl _ _ _, ⟨_, rfl⟩, HF.out⟩⟩⟩
end Go.Proofs.Ytahccgbmbnmcgaa
