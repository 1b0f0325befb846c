/- OrdmapTypes: both ordered maps and the Go map beside each other; a struct as a Go map's value. -/
import Derived.Test.YtpnhklehpilopaaOmAllD
import Derived.Test.YtpnhklehpilopaaOmGetE
import Derived.Test.YtpnhklehpilopaaOmAgree
import Derived.Test.YtpnhklehpilopaaStr
import Derived.Laws.StructEq
import Derived.RangeFuncBox
namespace Go.Proofs.Ytpnhklehpilopaa
open Go Go.RowKit Go.Maps

abbrev klB (k : Int) : Lit := .int .u8 k
theorem klB_ne {a b : Int} (h : a ≠ b) : klB a ≠ klB b := fun e => h (by injection e)
theorem lawByte : Keyed Try.prog 5 := int_keyed Try.underlying5
theorem zeroPair (w : World) : (zeroValue 76).run Try.prog w = .ok (.agg #[.int .i64 0, .string ⟨#[]⟩]) w := by kernel_rfl
theorem wf_u8 {k : Int} (h0 : 0 ≤ k) (h1 : k < 256) : (Lit.int .u8 k).wf = true := by
  have e1 : IntKind.u8.min = 0 := rfl
  have e2 : IntKind.u8.max = 255 := rfl
  simp [Lit.wf, IntKind.bits, IntKind.signed, e1, e2]
  omega

/-- How an element reads: as itself. -/
def heldR (v : Value) : Option (DataW Value × List MemPlace) := some (.held v, [])

abbrev p0 : Int × ByteArray := (0, ⟨#[]⟩)

/-- The datum D and the list l agree. -/
structure AgP (D : DataW Value) (l : List (Int × (Int × ByteArray))) : Prop where
  at' : ∀ k : Int, D.atKey (klB k) (.held (pvD p0)) = .held (pvD ((kGet l k).getD p0))
  has : ∀ k : Int, Maps.has D (klB k) = kHas l k
  size : Maps.size D = l.length

theorem agP_nil : AgP (.map []) [] := ⟨fun _ => rfl, fun _ => rfl, rfl⟩

theorem AgP.put {D : DataW Value} {l : List (Int × (Int × ByteArray))} (h : AgP D l) (hT : Tidy D) (hs : Srt ltI l) {k : Int} (hk : WideAt.IsKeyLit (klB k)) (v : Int × ByteArray) : AgP (D.put (klB k) (.held (pvD v))) (kSet ltI l k v) := by
  refine ⟨fun k' => ?_, fun k' => ?_, ?_⟩
  · by_cases hkk : k = k'
    · subst hkk; rw [atKey_put_same hT.isMap hk, get_set_same ordI hs]; rfl
    · rw [atKey_put_other (klB_ne (fun e => hkk e.symm)), get_set_other ordI hs v hkk]; exact h.at' k'
  · rw [has_set ordI hs]
    by_cases hkk : k = k'
    · subst hkk; rw [has_put_same hT.isMap hk]; simp
    · rw [has_put_other (klB_ne (fun e => hkk e.symm)), h.has]; simp [hkk]
  · rw [size_put hT, len_set, h.has, h.size]

/-- A key looked up in the Go map. -/
theorem look_pair {W : World} {gb nn : Nat} {l : List (Int × (Int × ByteArray))} {D : DataW Value} (h : W.ownsMap Try.prog 5 heldR gb nn D) (hag : AgP D l) (k : Int) (h0 : 0 ≤ k) (h1 : k < 256) :
    (Instr.lookup 80 (.map (some gb)) (.int .u8 k) false).run Try.prog W = .ok (pvD ((kGet l k).getD p0)) W := by
  obtain ⟨v, ps, hlook, hv⟩ := h.lookup lawByte Try.underlying80 (zeroPair W) (zd := .held (pvD p0)) (zp := []) rfl (keyOf_int_mk Try.underlying5 (wf_u8 h0 h1))
  rw [hag.at' k] at hv
  unfold heldR at hv
  simp only [Option.some.injEq, Prod.mk.injEq, DataW.held.injEq] at hv
  rw [hlook, hv.1]

/-! ### lists that differ in their values alone -/
section
variable {κ α β : Type} (f : α → β)
/-- Other values at the same keys. -/
def vals (l : List (κ × α)) : List (κ × β) := l.map fun x => (x.1, f x.2)
theorem vals_length (l : List (κ × α)) : (vals f l).length = l.length := by simp [vals]
theorem vals_at {l : List (κ × α)} {j : Nat} {x : κ × α} (h : l[j]? = some x) : (vals f l)[j]? = some (x.1, f x.2) := by simp [vals, h]
theorem rank_vals (lt : κ → κ → Bool) (l : List (κ × α)) (k : κ) : kRank lt (vals f l) k = kRank lt l k := by
  unfold kRank vals
  rw [List.countP_map]
  rfl
variable [DecidableEq κ]
theorem has_vals (l : List (κ × α)) (k : κ) : kHas (vals f l) k = kHas l k := by
  unfold kHas vals
  rw [List.any_map]
  rfl
theorem get_vals (l : List (κ × α)) (k : κ) : kGet (vals f l) k = (kGet l k).map f := by
  unfold kGet vals
  rw [List.find?_map]
  simp [Function.comp_def]
theorem set_vals (lt : κ → κ → Bool) (l : List (κ × α)) (k : κ) (v : α) : kSet lt (vals f l) k (f v) = vals f (kSet lt l k v) := by
  unfold kSet
  rw [has_vals, rank_vals]
  split
  · unfold vals; rw [List.map_set]
  · unfold vals; rw [List.map_append, List.map_cons, List.map_take, List.map_drop]
end

/-- What is known of a key: its pair, and the block of its number. -/
abbrev KV := Int × ((Int × ByteArray) × Nat)
abbrev vD (v : (Int × ByteArray) × Nat) : Int × ByteArray := v.1
abbrev vE (v : (Int × ByteArray) × Nat) : Option Addr := some ⟨v.2, 0, none⟩

theorem MapD.rowAt {W : World} {base b : Nat} {p : Option Addr} {c : Nat} {l : List (Int × (Int × ByteArray))} (h : MapD W base b p c l) {a : Addr} (ha : p = some a) : ∃ cs, W.heap[a.block]? = some (.cells cs 195 (0, 0)) := by
  rcases h.row.parts with ⟨h1, _⟩ | ⟨g, cap, cur, h1, h2, h3, _⟩
  · subst ha; cases h1
  · subst ha; injection h1 with e1; injection e1 with e1; subst e1; exact ⟨_, h3⟩
theorem MapE.rowAt {W : World} {base b : Nat} {p : Option Addr} {c : Nat} {l : List (Int × Option Addr)} (h : MapE W base b p c l) {a : Addr} (ha : p = some a) : ∃ cs, W.heap[a.block]? = some (.cells cs 198 (0, 0)) := by
  rcases h.row.parts with ⟨h1, _⟩ | ⟨g, cap, cur, h1, h2, h3, _⟩
  · subst ha; cases h1
  · subst ha; injection h1 with e1; injection e1 with e1; subst e1; exact ⟨_, h3⟩

/-- What stands between the calls, both ordered maps aside: the result's box, the boxes of the second map and of the Go map, the Go map, the numbers. -/
structure TyP (W : World) (N k : Nat) (L : List KV) (D : DataW Value) : Prop where
  res : Boxed W N 4 (.bool false)
  bE : Boxed W (N + 1 + 1 + 1) 77 (.pointer (some ⟨N + 1 + 1, 0, none⟩))
  bG : Boxed W (N + 1 + 1 + 1 + 1 + 1) 80 (.map (some (N + 1 + 1 + 1 + 1)))
  own : W.ownsMap Try.prog 5 heldR (N + 1 + 1 + 1 + 1) k D
  ag : AgP D (vals vD L)
  ints : ∀ x ∈ L, Boxed W x.2.2 3 (.int .i64 x.2.1.1) ∧ N + 6 ≤ x.2.2
  keys : ∀ x ∈ L, 0 ≤ x.1 ∧ x.1 < 256

/-- A call on one of the maps leaves the rest. -/
theorem TyP.touch {W W' : World} {N k b : Nat} {p : Option Addr} {L : List KV} {D : DataW Value} (h : TyP W N k L D) (ht : Touch b p W W') (hb : b = N + 1 ∨ b = N + 1 + 1)
    (hp : ∀ a, p = some a → N + 6 ≤ a.block ∧ ∃ cs t, W.heap[a.block]? = some (.cells cs t (0, 0)) ∧ t ≠ 3) : TyP W' N k L D := by
  have keep : ∀ q, q < W.heap.size → q ≠ N + 1 → q ≠ N + 1 + 1 → (∀ a, p = some a → q ≠ a.block) → W'.heap[q]? = W.heap[q]? := fun q hq h1 h2 h3 => ht.block q hq (by omega) h3
  have low : ∀ q, q < W.heap.size → q < N + 6 → q ≠ N + 1 → q ≠ N + 1 + 1 → W'.heap[q]? = W.heap[q]? := fun q hq h0 h1 h2 => keep q hq h1 h2 (fun a ha => by have := (hp a ha).1; omega)
  refine ⟨(low _ h.res.lt (by omega) (by omega) (by omega)).trans h.res, (low _ h.bE.lt (by omega) (by omega) (by omega)).trans h.bE, (low _ h.bG.lt (by omega) (by omega) (by omega)).trans h.bG, ownsMap_same h.own (low _ (ownsMap_lt h.own) (by omega) (by omega) (by omega)), h.ag, fun x hx => ?_, h.keys⟩
  obtain ⟨h1, h2⟩ := h.ints x hx
  refine ⟨(keep _ h1.lt (by omega) (by omega) (fun a ha e => ?_)).trans h1, h2⟩
  obtain ⟨_, cs, t, hc, hne⟩ := hp a ha
  have h3 : W.heap[x.2.2]? = some (.cells #[.int .i64 x.2.1.1] 3 (0, 0)) := h1
  rw [e, hc] at h3
  injection h3 with h3
  injection h3 with _ h3
  exact hne h3

theorem TyP.below {W W' : World} {N k : Nat} {L : List KV} {D : DataW Value} (h : TyP W N k L D) (hb : Below W.heap.size W W') : TyP W' N k L D :=
  ⟨(hb.block _ h.res.lt).trans h.res, (hb.block _ h.bE.lt).trans h.bE, (hb.block _ h.bG.lt).trans h.bG, ownsMap_same h.own (hb.block _ (ownsMap_lt h.own)), h.ag, fun x hx => ⟨(hb.block _ (h.ints x hx).1.lt).trans (h.ints x hx).1, (h.ints x hx).2⟩, h.keys⟩

/-- One map stays while the other is written. -/
theorem MapE.besideD {W W' : World} {N bb : Nat} {p q : Option Addr} {c : Nat} {l : List (Int × Option Addr)} (h : MapE W bb (N + 1 + 1) q c l) (hq : ∀ a, q = some a → N + 6 ≤ a.block) (ht : Touch (N + 1) p W W')
    (hp : ∀ a, p = some a → N + 6 ≤ a.block ∧ ∃ cs, W.heap[a.block]? = some (.cells cs 195 (0, 0))) : MapE W' bb (N + 1 + 1) q c l :=
  h.same ht.size (ht.block _ h.lt (by omega) (fun a ha => by have := (hp a ha).1; omega)) (fun a ha => by
    obtain ⟨cs, hc⟩ := h.rowAt ha
    have h6 := hq a ha
    refine ht.block _ (h.own ha).2 (by omega) (fun a' ha' e => ?_)
    obtain ⟨_, cs', hc'⟩ := hp a' ha'
    rw [e, hc'] at hc
    injection hc with hc
    injection hc with _ hc
    cases hc)
theorem MapD.besideE {W W' : World} {N bb : Nat} {p q : Option Addr} {c : Nat} {l : List (Int × (Int × ByteArray))} (h : MapD W bb (N + 1) q c l) (hq : ∀ a, q = some a → N + 6 ≤ a.block) (ht : Touch (N + 1 + 1) p W W')
    (hp : ∀ a, p = some a → N + 6 ≤ a.block ∧ ∃ cs, W.heap[a.block]? = some (.cells cs 198 (0, 0))) : MapD W' bb (N + 1) q c l :=
  h.same ht.size (ht.block _ h.lt (by omega) (fun a ha => by have := (hp a ha).1; omega)) (fun a ha => by
    obtain ⟨cs, hc⟩ := h.rowAt ha
    have h6 := hq a ha
    refine ht.block _ (h.own ha).2 (by omega) (fun a' ha' e => ?_)
    obtain ⟨_, cs', hc'⟩ := hp a' ha'
    rw [e, hc'] at hc
    injection hc with hc
    injection hc with _ hc
    cases hc)

/-- Both maps, and the rest. -/
structure TyI (W : World) (N k : Nat) (L : List KV) (D : DataW Value) (pD : Option Addr) (cD : Nat) (pE : Option Addr) (cE : Nat) : Prop where
  rest : TyP W N k L D
  mD : MapD W (N + 1) (N + 1) pD cD (vals vD L)
  mE : MapE W (N + 1 + 1) (N + 1 + 1) pE cE (vals vE L)
  rD : ∀ a, pD = some a → N + 6 ≤ a.block
  rE : ∀ a, pE = some a → N + 6 ≤ a.block
  len : L.length ≤ k

theorem TyI.below {W W' : World} {N k : Nat} {L : List KV} {D : DataW Value} {pD : Option Addr} {cD : Nat} {pE : Option Addr} {cE : Nat} (h : TyI W N k L D pD cD pE cE) (hb : Below W.heap.size W W') : TyI W' N k L D pD cD pE cE :=
  ⟨h.rest.below hb, h.mD.below hb, h.mE.below hb, h.rD, h.rE, h.len⟩

theorem TyI.rowD {W : World} {N k : Nat} {L : List KV} {D : DataW Value} {pD : Option Addr} {cD : Nat} {pE : Option Addr} {cE : Nat} (h : TyI W N k L D pD cD pE cE) : ∀ a, pD = some a → N + 6 ≤ a.block ∧ ∃ cs, W.heap[a.block]? = some (.cells cs 195 (0, 0)) := fun a ha => ⟨h.rD a ha, h.mD.rowAt ha⟩
theorem TyI.rowE {W : World} {N k : Nat} {L : List KV} {D : DataW Value} {pD : Option Addr} {cD : Nat} {pE : Option Addr} {cE : Nat} (h : TyI W N k L D pD cD pE cE) : ∀ a, pE = some a → N + 6 ≤ a.block ∧ ∃ cs, W.heap[a.block]? = some (.cells cs 198 (0, 0)) := fun a ha => ⟨h.rE a ha, h.mE.rowAt ha⟩

theorem head_from {p p' : Option Addr} {M N : Nat} (h : Head p p' M) (hp : ∀ a, p = some a → N ≤ a.block) (hm : N ≤ M) : ∀ a, p' = some a → N ≤ a.block := fun a ha => by
  rcases h a ha with ⟨a0, h0, h2⟩ | h0
  · rw [← h2]; exact hp a0 h0
  · omega

theorem srt_vals {κ α β : Type} (f : α → β) {lt : κ → κ → Bool} {l : List (κ × α)} (h : Srt lt (vals f l)) : Srt lt l := by
  unfold Srt vals at h
  rw [List.pairwise_map] at h
  exact h

/-- What both maps answer for a key. -/
theorem TyI.look {W : World} {N k : Nat} {L : List KV} {D : DataW Value} {pD : Option Addr} {cD : Nat} {pE : Option Addr} {cE : Nat} (h : TyI W N k L D pD cD pE cE) (b : Int) :
    ∃ on os q, (kGet (vals vD L) b).getD p0 = (on, os) ∧ (kGet (vals vE L) b).getD none = q ∧ (kHas L b = true → ∃ B, q = some ⟨B, 0, none⟩ ∧ ∃ x ∈ L, x.2.2 = B ∧ x.2.1.1 = on) := by
  refine ⟨_, _, _, rfl, rfl, fun hh => ?_⟩
  obtain ⟨v, hv⟩ := (has_at_rank ordI (srt_vals vD h.mD.srt) b).1 hh
  have hg := kGet_some ordI (srt_vals vD h.mD.srt) hv
  rw [get_vals, get_vals, hg]
  exact ⟨v.2, rfl, (b, v), List.mem_of_getElem? hv, rfl, rfl⟩

/-- What is known of the key at an index; of the last one beyond the end. -/
def pkL (L : List KV) (i : Nat) : KV := L.getD (min i (L.length - 1)) (0, p0, 0)
theorem pkL_at {L : List KV} {j : Nat} {x : KV} (h : L[j]? = some x) : pkL L j = x := by
  have hj := (List.getElem?_eq_some_iff.1 h).1
  unfold pkL
  rw [List.getD_eq_getElem?_getD, Nat.min_eq_left (by omega), h]
  rfl
theorem pkL_idx {L : List KV} (h : 0 < L.length) (i : Nat) : L[min i (L.length - 1)]? = some (pkL L i) := by
  unfold pkL
  have hm : min i (L.length - 1) < L.length := by omega
  rw [List.getD_eq_getElem?_getD, List.getElem?_eq_getElem hm]
  rfl
/-- The key that came last. -/
def lastK (L : List KV) (pre : List Nat) : Int := match pre.getLast? with
  | none => -1
  | some i => (pkL L i).1
theorem lastK_snoc (L : List KV) (pre : List Nat) (x : Nat) : lastK L (pre ++ [x]) = (pkL L x).1 := by simp [lastK]
theorem last_lt {L : List KV} (hs : Srt ltI L) (hk : ∀ x ∈ L, 0 ≤ x.1) {pre : List Nat} {x : Nat} (h : pre ++ [x] <+: List.range L.length) : lastK L pre < (pkL L x).1 := by
  have hl := h.length_le
  rw [List.length_range, List.length_append, List.length_singleton] at hl
  obtain ⟨t, e⟩ := h
  have at' : ∀ j (hj : j < pre.length + 1), (pre ++ [x])[j]? = some j := fun j hj => by
    have h1 : (pre ++ [x] ++ t)[j]? = (pre ++ [x])[j]? := List.getElem?_append_left (by simpa using hj)
    rw [← h1, e, List.getElem?_range (by omega)]
  have hx : x = pre.length := by
    have := at' pre.length (by omega)
    rw [List.getElem?_append_right (Nat.le_refl _)] at this
    simpa using this
  subst hx
  obtain ⟨y, hy⟩ : ∃ y, L[pre.length]? = some y := ⟨_, List.getElem?_eq_getElem (by omega)⟩
  rw [pkL_at hy]
  unfold lastK
  rcases Nat.eq_zero_or_pos pre.length with h0 | h0
  · have : pre = [] := List.eq_nil_of_length_eq_zero h0
    rw [this]
    have := hk y (List.mem_of_getElem? hy)
    show (-1 : Int) < _
    omega
  · have h2 := at' (pre.length - 1) (by omega)
    rw [List.getElem?_append_left (by omega)] at h2
    rw [List.getLast?_eq_getElem?, h2]
    obtain ⟨z, hz⟩ : ∃ z, L[pre.length - 1]? = some z := ⟨_, List.getElem?_eq_getElem (by omega)⟩
    show (pkL L (pre.length - 1)).1 < _
    rw [pkL_at hz]
    obtain ⟨i1, e1⟩ := List.getElem?_eq_some_iff.1 hz
    obtain ⟨i2, e2⟩ := List.getElem?_eq_some_iff.1 hy
    have := List.pairwise_iff_getElem.1 hs (pre.length - 1) pre.length i1 i2 (by omega)
    rw [e1, e2] at this
    simpa [ltI] using this

/-- Behind a round. -/
theorem tyI_next {W W8 : World} {N j B : Nat} {kb : Int} {L : List KV} {D : DataW Value} {pD : Option Addr} {cD : Nat} {pE : Option Addr} {cE : Nat} {x : Int × ByteArray} (hr : TyP W N j L D) (hD : MapD W (N + 1) (N + 1) pD cD (kSet ltI (vals vD L) kb x)) (hE : MapE W (N + 1 + 1) (N + 1 + 1) pE cE (kSet ltI (vals vE L) kb (some ⟨B, 0, none⟩)))
    (hrD : ∀ a, pD = some a → N + 6 ≤ a.block) (hrE : ∀ a, pE = some a → N + 6 ≤ a.block) (hn : Boxed W B 3 (.int .i64 x.1)) (hB : N + 6 ≤ B) (hb0 : 0 ≤ kb) (hb1 : kb < 256) (hlen : L.length ≤ j) (hs : Srt ltI (vals vD L))
    (own8 : W8.ownsMap Try.prog 5 heldR (N + 1 + 1 + 1 + 1) (j + 1) (D.put (klB kb) (.held (pvD x)))) (hg : W.grownBy W8 (some (N + 1 + 1 + 1 + 1))) : TyI W8 N (j + 1) (kSet ltI L kb (x, B)) (D.put (klB kb) (.held (pvD x))) pD cD pE cE := by
  have keep : ∀ q, q < W.heap.size → q ≠ N + 4 → W8.heap[q]? = W.heap[q]? := fun q h1 h2 => hg.block q h1 (by intro e; injection e with e; omega)
  have e1 : kSet ltI (vals vD L) kb x = vals vD (kSet ltI L kb (x, B)) := set_vals vD ltI L kb (x, B)
  have e2 : kSet ltI (vals vE L) kb (some ⟨B, 0, none⟩) = vals vE (kSet ltI L kb (x, B)) := set_vals vE ltI L kb (x, B)
  have hag := hr.ag.put (hr.own.tidy lawByte) hs (lawByte.key (keyOf_int_mk Try.underlying5 (wf_u8 hb0 hb1))) x
  rw [e1] at hD hag
  rw [e2] at hE
  refine ⟨⟨(keep _ hr.res.lt (by omega)).trans hr.res, (keep _ hr.bE.lt (by omega)).trans hr.bE, (keep _ hr.bG.lt (by omega)).trans hr.bG, own8, hag, fun y hy => ?_, fun y hy => ?_⟩,
    hD.same hg.size (keep _ hD.lt (by omega)) (fun a ha => keep _ (hD.own ha).2 (by have := hrD a ha; omega)), hE.same hg.size (keep _ hE.lt (by omega)) (fun a ha => keep _ (hE.own ha).2 (by have := hrE a ha; omega)), hrD, hrE, ?_⟩
  · rcases mem_set hy with rfl | hy
    · exact ⟨(keep _ hn.lt (by omega)).trans hn, hB⟩
    · obtain ⟨h1, h2⟩ := hr.ints y hy
      exact ⟨(keep _ h1.lt (by omega)).trans h1, h2⟩
  · rcases mem_set hy with rfl | hy
    · exact ⟨hb0, hb1⟩
    · exact hr.keys y hy
  · have := len_set (lt := ltI) L kb (x, B)
    split at this <;> omega

/-- A struct's '!=' with itself. -/
theorem neq_self (x : Int × ByteArray) (w : World) : (binOp .neq 76 (pvD x) (pvD x)).run Try.prog w = .ok (.bool false) w := by
  simp only [pvD]; rw [run_neq_struct, run_equalIn_agg _ _ _ _ _ (by kernel_rfl) (by kernel_rfl)]; simp [go_sem, part, Try.underlying76, Try.underlying3, Try.underlying9]
end Go.Proofs.Ytpnhklehpilopaa
