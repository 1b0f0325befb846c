/- The keys of the Go map, sorted: those of the ordered map. -/
import Derived.Test.YtchnfmfbdbjbjaaOmFilled
import Derived.Test.YtchnfmfbdbjbjaaShelf
import Derived.Shelf.SlIterI.Nil
import Derived.Shelf.SortM.Plain
import Derived.Shelf.SortM.SortNone
namespace Go.Proofs.Ytchnfmfbdbjbjaa
open Go Go.RowKit Go.Maps Go.Shelf

theorem sorted_keys {D : DataW Unit} {l : List (Int × Int)} (hag : Ag D l) (hT : Tidy D) (hk : ∀ es, D = .map es → ∀ p ∈ es, ∃ x, p.1 = .int .i64 x) (hs : Srt ltI l) : ∀ ss : List Int, ss.Perm (intKeys D) → ss.mergeSort (fun x y => decide (x ≤ y)) = l.map (·.1) := by
  intro ss hp
  obtain ⟨es, rfl, hd⟩ := hT
  have hnd : (l.map (·.1)).Nodup := by
    refine List.pairwise_map.2 (hs.imp fun {a b} h e => ?_)
    rw [e] at h
    rw [ordI.irr] at h; cases h
  have hperm : (l.map (·.1)).Perm (intKeys (.map es)) := perm_intKeys hd (hk es rfl) hnd (fun x => by
    have := hag.has x
    rw [show Maps.has (.map es) (.int .i64 x) = kHas l x from this, kHas_true]
    simp)
  rw [mergeSort_of_perm_i (hp.trans hperm.symm)]
  have tr : ∀ a b c : Int, leI a b = true → leI b c = true → leI a c = true := fun a b c h1 h2 => by simp only [leI, decide_eq_true_eq] at *; exact Int.le_trans h1 h2
  have to : ∀ a b : Int, (leI a b || leI b a) = true := fun a b => by simp only [leI, Bool.or_eq_true, decide_eq_true_eq]; exact Int.le_total a b
  refine List.Perm.eq_of_pairwise (le := fun a b => leI a b = true) (fun a b _ _ h1 h2 => ?_) (List.pairwise_mergeSort tr to _) ?_ (List.mergeSort_perm _ _)
  · simp only [leI, decide_eq_true_eq] at h1 h2; exact Int.le_antisymm h1 h2
  · refine List.pairwise_map.2 (hs.imp fun {a b} h => ?_)
    simp only [ltI, decide_eq_true_eq] at h
    simp only [leI, decide_eq_true_eq]
    omega

theorem sortsA (m : Nat) : AnyZI.SortsIn Try.prog Try.sortedA_ren Fence.wide m :=
  ⟨fun blk off cap ss W hH hblk hsz => callsIn_wide.2 (AnyM.slices_Sort_int Try.sortA blk off cap ss W hH hblk hsz),
   fun p cap W => callsIn_wide.2 (AnyM.slices_Sort_int_none Try.sortA p cap W)⟩

theorem keysMake (mb : Option Nat) (W : World) : Calls Try.prog 25 #[.map mb] W fun e w' => e = .returned (.func (.func 92) #[] #[.pointer (some ⟨W.heap.size, 0, none⟩)]) ∧ w' = W.alloc (.cells #[.map mb] 47) :=
  callsIn_wide.1 (AnyZI.keys_in Try.keysA Fence.wide 5 trivial rfl mb W)

set_option maxHeartbeats 1000000 in
theorem sortedOf (b nn : Nat) {D : DataW Unit} {l : List (Int × Int)} (hag : Ag D l) (hs : Srt ltI l) (hll : l.length ≤ 1000) (w : World) (hown : w.ownsMap Try.prog 3 (plainElem Try.prog 3) b nn D) :
    Calls Try.prog 24 #[.func (.func 92) #[] #[.pointer (some ⟨w.heap.size, 0, none⟩)]] (w.alloc (.cells #[.map (some b)] 47)) fun e w' => ∃ v, e = .returned v ∧
      w'.ownsRow (w.heap.size + 1) 3 1 v l.length (l.map fun x => Value.int .i64 x.1) ∧ Below (w.heap.size + 1) (w.alloc (.cells #[.map (some b)] 47)) w' := by
  have hbl := hown.lt
  have hsz := hag.size
  have hseq : SeqGives Fence.wide 2 Try.prog 92 #[.pointer (some ⟨w.heap.size, 0, none⟩)] encZ (fun ss => ss.Perm (intKeys D)) (Maps.size D) (w.alloc (.cells #[.map (some b)] 47)) :=
    AnyZI.keys_gives (ρ := Try.keysA_ren) { Try.keysA with } Fence.wide _ trivial rfl (by omega) w.heap.size b nn D _ (by simp) (by simp) (by
      obtain ⟨es, clock, hb, Ft, hs, hD⟩ := hown
      exact ⟨es, clock, (Below.heap_alloc _ _ b hbl).trans hb, Ft, hs, hD⟩)
  have cS := AnyZI.sorted_in Try.sortedA Fence.wide 5 trivial trivial trivial trivial rfl (by omega) (sortsA _) (enters_of Try.func91 (by kernel_rfl) rfl) 92 #[.pointer (some ⟨w.heap.size, 0, none⟩)] trivial (enters_of Try.func92 (by kernel_rfl) rfl) _ _ (by rw [hsz]; unfold maxLen; omega) (by rw [hsz]; omega) _ hseq
  refine (callsIn_wide.1 cS).mono ?_
  rintro e w' ⟨v, ss, rfl, hS, hrow, hnil, hb⟩
  have hkeys := sorted_keys hag (hown.tidy lawInt) (fun es he p hp => by
    obtain ⟨es', he', hko⟩ := hown.keysOf
    rw [he] at he'
    injection he' with he'
    subst he'
    obtain ⟨v, hv⟩ := hko p hp
    obtain ⟨x, _, hx, _⟩ := Maps.keyOf_i64 Try.underlying3 hv
    exact ⟨x, hx⟩) hs ss hS
  rw [hkeys] at hrow
  have hlen : ss.length = l.length := by
    have h1 : (ss.mergeSort (fun x y => decide (x ≤ y))).length = ss.length := List.length_mergeSort ss
    rw [hkeys] at h1
    simpa using h1.symm
  rw [hlen] at hrow
  rw [World.size_alloc] at hrow hb
  refine ⟨v, rfl, by rw [List.map_map] at hrow; exact hrow, hb⟩
end Go.Proofs.Ytchnfmfbdbjbjaa
