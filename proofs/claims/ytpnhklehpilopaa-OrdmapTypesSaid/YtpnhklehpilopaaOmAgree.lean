/- A Go map and an ordered list of keys with values: the same keys, the same values. -/
import Derived.Maps.OwnSet
import Derived.Test.YtpnhklehpilopaaOmMath
import Derived.Test.YtpnhklehpilopaaOmOrd
import Derived.Test.YtpnhklehpilopaaOmMem2
namespace Go.Proofs.Ytpnhklehpilopaa
open Go Go.RowKit Go.Maps

/-- The key as the map's datum has it. -/
abbrev kl (k : Int) : Lit := .int .i64 k
/-- A number as a datum. -/
abbrev dl (v : Int) : DataW Unit := .lit (.int .i64 v)

/-- The datum D and the list l agree. -/
structure Ag (D : DataW Unit) (l : List (Int × Int)) : Prop where
  at' : ∀ k : Int, D.atKey (kl k) (dl 0) = dl ((kGet l k).getD 0)
  has : ∀ k : Int, Maps.has D (kl k) = kHas l k
  size : Maps.size D = l.length

theorem ag_nil : Ag (.map []) [] := ⟨fun _ => rfl, fun _ => rfl, rfl⟩

theorem kl_inj {a b : Int} (h : kl a = kl b) : a = b := by injection h
theorem dl_inj {a b : Int} (h : dl a = dl b) : a = b := by
  injection h with h
  injection h
theorem kl_ne {a b : Int} (h : a ≠ b) : kl a ≠ kl b := fun e => h (kl_inj e)

theorem has_set {κ ν : Type} [DecidableEq κ] {lt : κ → κ → Bool} (O : KOrd lt) {l : List (κ × ν)} (hs : Srt lt l) (k k' : κ) (v : ν) : kHas (kSet lt l k v) k' = (decide (k = k') || kHas l k') := by
  rw [← kGet_has, ← kGet_has]
  by_cases h : k = k'
  · subst h; rw [get_set_same O hs]; simp
  · rw [get_set_other O hs v h]; simp [h]
theorem has_del {κ ν : Type} [DecidableEq κ] {lt : κ → κ → Bool} (O : KOrd lt) {l : List (κ × ν)} (hs : Srt lt l) (k k' : κ) : kHas (kDel lt l k) k' = (!decide (k = k') && kHas l k') := by
  rw [← kGet_has, ← kGet_has]
  by_cases h : k = k'
  · subst h; rw [get_del_same O hs]; simp
  · rw [get_del_other O hs h]; simp [h]

theorem Ag.put {D : DataW Unit} {l : List (Int × Int)} (h : Ag D l) (hT : Tidy D) (hs : Srt ltI l) {k : Int} (hk : WideAt.IsKeyLit (kl k)) (v : Int) : Ag (D.put (kl k) (dl v)) (kSet ltI l k v) := by
  refine ⟨fun k' => ?_, fun k' => ?_, ?_⟩
  · by_cases hkk : k = k'
    · subst hkk; rw [atKey_put_same hT.isMap hk, get_set_same ordI hs]; rfl
    · rw [atKey_put_other (kl_ne (fun e => hkk e.symm)), get_set_other ordI hs v hkk]; exact h.at' k'
  · rw [has_set ordI hs]
    by_cases hkk : k = k'
    · subst hkk; rw [has_put_same hT.isMap hk]; simp
    · rw [has_put_other (kl_ne (fun e => hkk e.symm)), h.has]; simp [hkk]
  · rw [size_put hT, len_set, h.has, h.size]

theorem Ag.del {D : DataW Unit} {l : List (Int × Int)} (h : Ag D l) (hT : Tidy D) (hs : Srt ltI l) (k : Int) : Ag (D.del (kl k)) (kDel ltI l k) := by
  refine ⟨fun k' => ?_, fun k' => ?_, ?_⟩
  · by_cases hkk : k = k'
    · subst hkk; rw [atKey_del_same, get_del_same ordI hs]; rfl
    · rw [atKey_del_other (kl_ne (fun e => hkk e.symm)), get_del_other ordI hs hkk]; exact h.at' k'
  · rw [has_del ordI hs]
    by_cases hkk : k = k'
    · subst hkk; rw [has_del_same]; simp
    · rw [has_del_other (kl_ne (fun e => hkk e.symm)), h.has]; simp [hkk]
  · have := size_del (k := kl k) hT
    rw [h.has, h.size] at this
    rw [len_del ordI hs]
    split at this <;> rename_i hh <;> simp [hh] <;> omega

/-- Where a key comes from. -/
theorem mem_set {κ ν : Type} [DecidableEq κ] {lt : κ → κ → Bool} {l : List (κ × ν)} {k : κ} {v : ν} {p : κ × ν} (h : p ∈ kSet lt l k v) : p = (k, v) ∨ p ∈ l := by
  unfold kSet at h
  split at h
  · rcases List.mem_or_eq_of_mem_set h with h | h
    · exact .inr h
    · exact .inl h
  · rcases List.mem_append.1 h with h | h
    · exact .inr (List.mem_of_mem_take h)
    · rcases List.mem_cons.1 h with h | h
      · exact .inl h
      · exact .inr (List.mem_of_mem_drop h)
theorem mem_del {κ ν : Type} [DecidableEq κ] {lt : κ → κ → Bool} {l : List (κ × ν)} {k : κ} {p : κ × ν} (h : p ∈ kDel lt l k) : p ∈ l := by
  unfold kDel at h
  split at h
  · rcases List.mem_append.1 h with h | h
    · exact List.mem_of_mem_take h
    · exact List.mem_of_mem_drop h
  · exact h

theorem ownsMap_same {H : Type} {P : Program} {k : TypeId} {R : Value → Option (DataW H × List MemPlace)} {b n : Nat} {D : DataW H} {w w' : World} (h : w.ownsMap P k R b n D) (hs : w'.heap[b]? = w.heap[b]?) : w'.ownsMap P k R b n D := by
  obtain ⟨es, clock, h1, h2⟩ := h
  exact ⟨es, clock, hs.trans h1, h2⟩
theorem ownsMap_lt {H : Type} {P : Program} {k : TypeId} {R : Value → Option (DataW H × List MemPlace)} {b n : Nat} {D : DataW H} {w : World} (h : w.ownsMap P k R b n D) : b < w.heap.size := by
  obtain ⟨es, clock, h1, h2⟩ := h
  exact (Array.getElem?_eq_some_iff.1 h1).1
theorem ownsMap_more {H : Type} {P : Program} {k : TypeId} {R : Value → Option (DataW H × List MemPlace)} {b n m : Nat} {D : DataW H} {w : World} (h : w.ownsMap P k R b n D) (hm : n ≤ m) : w.ownsMap P k R b m D := by
  obtain ⟨es, clock, h1, h2, h3, h4⟩ := h
  exact ⟨es, clock, h1, h2, Nat.le_trans h3 hm, h4⟩
end Go.Proofs.Ytpnhklehpilopaa
