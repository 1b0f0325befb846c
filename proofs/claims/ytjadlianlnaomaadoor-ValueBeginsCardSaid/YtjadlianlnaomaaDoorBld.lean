/- strings.Builder in the words of the numbers that it holds; Write; '[]byte(s)' of a string. -/
import Derived.Test.YtjadlianlnaomaaDoorStr
import Derived.Test.YtjadlianlnaomaaDoorSlices2
import Derived.Test.YtjadlianlnaomaaDoorShelf
import Derived.Test.YtjadlianlnaomaaDoorBldLay
import Derived.Lib.Builder
import Derived.Lib.ConvBytes
namespace Go.Proofs.YtjadlianlnaomaaDoor
open Go Go.RowKit

/-- The builder in block B holds the bytes xs. -/
def Bd (B : Nat) (xs : List Int) (w : World) : Prop := Lib.IsBuilder 37 5 B B (xs.map (Value.int .u8)) w ∧ (∀ x ∈ xs, 0 ≤ x ∧ x < 256)

theorem bldAt_below {T e : TypeId} {B b : Nat} {p : Value} {bs : List Value} {w w' : World} (h : Lib.BuilderAt T e B b p bs w) (hb : Below w.heap.size w w') : Lib.BuilderAt T e B b p bs w' := by
  have hlt := h.lt
  obtain ⟨hB, v, hbk, hown, hne⟩ := h
  exact ⟨hB, v, (hb.block b hlt).trans hbk, owns_below hown hb, hne⟩

theorem Bd.below {B : Nat} {xs : List Int} {w w' : World} (h : Bd B xs w) (hb : Below w.heap.size w w') : Bd B xs w' :=
  ⟨h.1.imp (fun k => bldAt_below k hb) (fun k => bldAt_below k hb), h.2⟩

theorem Bd.le {B : Nat} {xs : List Int} {w : World} (h : Bd B xs w) : B ≤ w.heap.size := by
  rcases h.1 with k | k <;> (have := k.lt; omega)

theorem bd_new (w : World) : Bd w.heap.size [] (w.alloc (.cells #[.pointer none, .slice none 0 0] 37)) :=
  ⟨Lib.fresh_isBuilder _ _ w, fun _ h => by cases h⟩

theorem cells_num (s : ByteArray) : Lib.strCells s = (numS s).map (Value.int .u8) := by
  unfold Lib.strCells numS
  rw [List.map_map]
  rfl

theorem cells_bytes {xs : List Int} (h : ∀ x ∈ xs, 0 ≤ x ∧ x < 256) : xs.map (Value.int .u8) = Lib.byteCells (Lib.bytesOf xs) := by
  unfold Lib.byteCells Lib.bytesOf
  rw [List.map_map]
  apply List.map_congr_left
  intro x hx
  have := h x hx
  show Value.int .u8 x = Value.int .u8 ((UInt8.ofNat x.toNat).toNat : Int)
  have e : ((UInt8.ofNat x.toNat).toNat : Int) = x := by rw [UInt8.toNat_ofNat']; omega
  rw [e]

theorem bd_str {B : Nat} {xs : List Int} (s : ByteArray) (ys : List Int) {w : World} (h : Bd B xs w) (hl : xs.length ≤ 1000000000) (hs : s.size ≤ 1000000000) (hy : xs ++ numS s = ys) :
    Calls Tryd.prog 24 #[.pointer (some ⟨B, 0, none⟩), .string s] w fun e w' => e = .returned (.tuple #[.int .i64 s.size, .nilIface]) ∧ Bd B ys w' ∧ Below B w w' :=
  (Tryd.Builder_WriteString B B (xs.map (Value.int .u8)) s w h.1 (by simp; omega) h.le).mono fun e w' ⟨he, hk, hb⟩ => by
    subst hy
    refine ⟨he, ⟨.inr ?_, ?_⟩, hb⟩
    · rw [List.map_append, ← cells_num]; exact hk
    · intro x hx
      rcases List.mem_append.1 hx with hx | hx
      · exact h.2 x hx
      · exact numS_rng s x hx

theorem bd_byte {B : Nat} {xs : List Int} (c : Int) {w : World} (h : Bd B xs w) (hl : xs.length ≤ 1000000000) (h0 : 0 ≤ c) (h1 : c < 256) :
    Calls Tryd.prog 31 #[.pointer (some ⟨B, 0, none⟩), .int .u8 c] w fun e w' => e = .returned .nilIface ∧ Bd B (xs ++ [c]) w' ∧ Below B w w' :=
  (Tryd.Builder_WriteByte B B (xs.map (Value.int .u8)) c w h.1 (by simp; omega) h.le).mono fun e w' ⟨he, hk, hb⟩ => by
    refine ⟨he, ⟨.inr ?_, ?_⟩, hb⟩
    · rw [List.map_append]; exact hk
    · intro x hx
      rcases List.mem_append.1 hx with hx | hx
      · exact h.2 x hx
      · obtain rfl := List.mem_singleton.1 hx; exact ⟨h0, h1⟩

theorem bd_string {B : Nat} {xs : List Int} {w : World} (h : Bd B xs w) :
    Calls Tryd.prog 26 #[.pointer (some ⟨B, 0, none⟩)] w fun e w' => e = .returned (.string (strI xs)) ∧ Below B w w' :=
  Tryd.Builder_String_any B B (Lib.bytesOf xs) w (by rw [← cells_bytes h.2]; exact h.1) h.le

/-- '[]byte(s)': the new world, and what stands in it. -/
theorem conv_bytes (s : ByteArray) (w : World) : Sem.run Tryd.prog (convert 9 35 (.string s)) w = .ok (.slice (some ⟨w.heap.size, 0, none⟩) s.size (grownCap w s.size 0 5)) (Lib.bytesWorld w 5 s) :=
  Lib.run_convert_string_bytes w _ _ _ s (by first | exact Tryd.underlying9) Tryd.underlying35 Tryd.underlying5

theorem bytesWorld_below (s : ByteArray) (w : World) (e : TypeId) : Below w.heap.size w (Lib.bytesWorld w e s) := by
  refine ⟨rfl, rfl, rfl, by rw [Lib.bytesWorld_size]; omega, fun k hk => Lib.bytesWorld_at_old w e s k hk⟩

theorem bytesWorld_in (s : ByteArray) (w : World) : Lib.BytesIn (Lib.bytesWorld w 5 s) (some ⟨w.heap.size, 0, none⟩) s.size (numS s) := by
  intro hn
  refine ⟨w.heap.size, 0, rfl, fun i hi => ?_⟩
  rw [Nat.zero_add, Lib.bytesWorld_cell w _ s i hi]
  congr 2
  unfold numS
  have hi' : i < s.data.toList.length := by simpa using hi
  simp [List.getD_eq_getElem?_getD]
  rw [Array.getElem?_eq_getElem (show i < s.data.size from hi)]
  rfl

set_option maxHeartbeats 2000000 in
set_option maxRecDepth 100000 in
/-- Write of a slice that holds a byte at least. -/
theorem bd_write {B : Nat} {xs : List Int} {p : Option Addr} {n c : Nat} {l : List Int} {w : World} (h : Bd B xs w) (hS : ∀ W, Below B w W → Sl W p n c l) (hn : 0 < n) (hl : xs.length ≤ 1000000000) (hln : n ≤ 1000000000) :
    Calls Tryd.prog 29 #[.pointer (some ⟨B, 0, none⟩), .slice p n c] w fun e w' => e = .returned (.tuple #[.int .i64 n, .nilIface]) ∧ Bd B (xs ++ l) w' ∧ Below B w w' := by
  obtain ⟨i0, hi, hz0, hz1, hz2⟩ := info_parts Tryd.infoB
  have HR : Hid (∀ x ∈ xs, 0 ≤ x ∧ x < 256) := h.2
  have hle := h.le
  have HS := Lib.hid hS
  have HB := Lib.hid h.1
  obtain ⟨b0, o0, hp0, _⟩ := (hS w (Below.refl _ _)).bytes hn
  subst hp0
  clear h hS
  go_enter Tryd.func29, Tryd.ntmps29
  go_wp2_with (go_at_call 34; refine (Tryd.Builder_copyCheck B B (xs.map (Value.int .u8)) _ HB.out).mono ?_)
  rintro e w1 ⟨rfl, h1, hb1⟩
  have HB1 := Lib.hid hb1
  obtain ⟨hB, v, hbk, hown, hne⟩ := h1
  have c0 : w1.cell? ⟨B, 0, none⟩ = some (.pointer (some ⟨B, 0, none⟩)) := by rw [Lib.cell_of_heap hbk]; rfl
  have c1 : w1.cell? ⟨B, 1, none⟩ = some v := by rw [Lib.cell_of_heap hbk]; rfl
  have HS1 := Lib.hid (HS.out w1 hb1)
  rw [List.length_map] at hown
  clear hb1
  go_wp2_with (at_builtin; refine wpList_append_own _ rfl _ _ 35 rfl B 5 i0 (.int .u8 0) 1 1 Tryd.underlying35 hi hz0 hz1 hz2 rfl (by decide) _ _ _ rfl hown ⟨b0, o0, none⟩ n c (l.map (Value.int .u8)) rfl (by rw [List.length_map, HS1.out.len]; omega) (cells_of_in HS1.out.len HS1.out.bytes _ rfl) (by intro u hu; obtain ⟨x, _, rfl⟩ := List.mem_map.1 hu; rfl) (by unfold maxLen; omega) (by omega) (by have := HB1.out.size; omega) ?_)
  intro v' w2 hown' hgrow _
  have hlt : B < w1.heap.size := by
    rcases Nat.lt_or_ge B w1.heap.size with h' | h'
    · exact h'
    · simp [Array.getElem?_eq_none h'] at hbk
  have hb2 : w2.heap[B]? = some (.cells #[.pointer (some ⟨B, 0, none⟩), v] 37 (0, 0)) := by
    rw [hgrow.block B hlt (fun e => hne e.symm)]
    exact hbk
  have d0 : w2.cell? ⟨B, 0, none⟩ = some (.pointer (some ⟨B, 0, none⟩)) := by rw [Lib.cell_of_heap hb2]; rfl
  have d1 : w2.cell? ⟨B, 1, none⟩ = some v := by rw [Lib.cell_of_heap hb2]; rfl
  have f1 : w2.frozen? ⟨B, 1, none⟩ = false := Lib.frozen_of_heap hb2 1
  obtain ⟨ao, n', cap, rfl⟩ : ∃ ao n' cap, v' = .slice ao n' cap := by
    rcases hown'.2 with ⟨hv, _⟩ | ⟨g, cap, cur, hv, _⟩
    · exact ⟨_, _, _, hv⟩
    · exact ⟨_, _, _, hv⟩
  have HO := Lib.hid hown
  have HO2 := Lib.hid hown'
  have HG := Lib.hid hgrow
  have HK2 := Lib.hid hb2
  clear hown hown' hgrow hb2 hbk
  go_wp2
  go_ret2
  refine ⟨rfl, ⟨.inr ?_, ?_⟩, ?_⟩
  · exact Lib.BuilderAt.put (T := 37) (e := 5) hB HK2.out (bs' := (xs ++ l).map (Value.int .u8)) (by rw [List.map_append, List.length_append, List.length_map, List.length_map, HS1.out.len]; exact HO2.out) (by decide)
  · intro x hx
    rcases List.mem_append.1 hx with hx | hx
    · exact HR.out x hx
    · exact HS1.out.rng x hx
  · exact (HB1.out.grown HG.out (by have := HB1.out.size; omega) (fun k hk => (HO.out.lt k hk).1)).setCell (p := ⟨B, 1, none⟩) hB _
end Go.Proofs.YtjadlianlnaomaaDoor
