/- Strings as lists of numbers: what the walk asks of them. -/
import Derived.Test.YtpnhklehpilopaaSlices
import Derived.Test.YtpnhklehpilopaaMath3
import Derived.Shelf.Bytes.SlEqualAll
namespace Go.Proofs.Ytpnhklehpilopaa
open Go Go.RowKit

theorem index_s (s : ByteArray) (k : Nat) (hk : k < s.size) (w : World) : (Instr.index 9 (.string s) (.int .i64 k)).run Try.prog w = .ok (.int .u8 ((numS s).getD k 0)) w := by
  rw [run_index_string w 9 s .i64 k Try.underlying9, dif_pos ⟨by omega, by omega⟩, numS_at s k hk]
  rfl

theorem getD_rng {l : List Int} (h : ∀ x ∈ l, 0 ≤ x ∧ x < 256) (k : Nat) (hk : k < l.length) : 0 ≤ l.getD k 0 ∧ l.getD k 0 < 256 := by
  simp only [List.getD_eq_getElem?_getD, List.getElem?_eq_getElem hk, Option.getD_some]
  exact h _ (List.getElem_mem _)

theorem take_succ_getD (l : List Int) (k : Nat) (hk : k < l.length) : l.take (k + 1) = l.take k ++ [l.getD k 0] := by
  rw [List.take_succ_eq_append_getElem hk]; simp [List.getD, hk]

theorem hexdig_at (d : Int) (h0 : 0 ≤ d) (h1 : d < 16) (w : World) :
    (Instr.index 9 (Value.string { data := #[48, 49, 50, 51, 52, 53, 54, 55, 56, 57, 97, 98, 99, 100, 101, 102] }) (.int .u8 d)).run Try.prog w = .ok (.int .u8 (dgI d)) w := by
  have h : d = 0 ∨ d = 1 ∨ d = 2 ∨ d = 3 ∨ d = 4 ∨ d = 5 ∨ d = 6 ∨ d = 7 ∨ d = 8 ∨ d = 9 ∨ d = 10 ∨ d = 11 ∨ d = 12 ∨ d = 13 ∨ d = 14 ∨ d = 15 := by omega
  rcases h with rfl | rfl | rfl | rfl | rfl | rfl | rfl | rfl | rfl | rfl | rfl | rfl | rfl | rfl | rfl | rfl <;> (show Sem.run _ _ _ = _; kernel_rfl)

theorem wrap_u8 (n : Int) (h0 : 0 ≤ n) (h1 : n < 256) : IntKind.u8.wrap n = n := by
  have e : IntKind.u8.wrap n = n % 256 := by simp [IntKind.wrap, IntKind.bits, IntKind.signed]
  rw [e]; omega

theorem quo_u8 (x : Int) (d : Nat) (h0 : 0 ≤ x) (h1 : x < 256) : IntKind.u8.wrap (x.tdiv (d : Int)) = x / (d : Int) := by
  have e : x.tdiv (d : Int) = x / (d : Int) := Int.tdiv_eq_ediv_of_nonneg h0
  rw [e]
  obtain ⟨n, rfl⟩ := Int.eq_ofNat_of_zero_le h0
  have h2 : n / d ≤ n := Nat.div_le_self n d
  rw [show ((n : Int) / (d : Int)) = ((n / d : Nat) : Int) from rfl]
  generalize n / d = q at *
  exact wrap_u8 _ (by omega) (by omega)

theorem rem_u8 (x : Int) (d : Nat) (h0 : 0 ≤ x) : x.tmod (d : Int) = x % (d : Int) := Int.tmod_eq_emod_of_nonneg h0

/-- Equal strings are equal lists. -/
theorem str_beq (a b : ByteArray) : (a.toList == b.toList) = decide (numS a = numS b) := by
  rw [Go.ByteArray.toList_eq, Go.ByteArray.toList_eq, Bool.eq_iff_iff, beq_iff_eq, decide_eq_true_iff]
  constructor
  · intro h; unfold numS; rw [h]
  · intro h
    have := congrArg strI h
    rw [strI_numS, strI_numS] at this
    rw [this]

/-- A string is compared with a constant: as the walk leaves it. -/
theorem str_const (a : ByteArray) (l : List UInt8) : (a.toList == l) = decide (numS a = l.map fun b => (b.toNat : Int)) := by
  have h := str_beq a ⟨l.toArray⟩
  have e : (ByteArray.mk l.toArray).toList = l := by rw [Go.ByteArray.toList_eq]
  rw [e] at h
  rw [h]
  rfl

theorem str_same (a : ByteArray) : (a.toList == a.toList) = true := by simp

theorem numS_append (a b : ByteArray) : numS (a ++ b) = numS a ++ numS b := by
  simp [numS, ByteArray.data_append]

theorem strI_append (a b : List Int) : strI a ++ strI b = strI (a ++ b) := by
  apply ByteArray.ext
  simp [strI, Lib.bytesOf, ByteArray.data_append]

theorem numS_extract (s : ByteArray) (i j : Nat) : numS (s.extract i j) = ((numS s).take j).drop i := by
  unfold numS
  rw [← List.map_take, ← List.map_drop]
  congr 1
  simp [ByteArray.data_extract, List.take_drop]
  rw [List.drop_take, List.drop_take]
  congr 1
  omega

theorem extract_strI (s : ByteArray) (i j : Nat) : s.extract i j = strI (((numS s).take j).drop i) := by
  rw [← numS_extract, strI_numS]

theorem Try.infoB : (Try.prog.info? 5).map (fun i => (i.zero, i.size, i.bytes)) = some (some (.int .u8 0), 1, 1) := by kernel_rfl

/-- Bytes in memory become a string. -/
theorem conv_sl {w : World} {p : Option Addr} {n c : Nat} {l : List Int} (h : Sl w p n c l) : Sem.run Try.prog (convert 72 9 (.slice p n c)) w = .ok (.string (strI l)) w :=
  Lib.BytesIn.convert (P := Try.prog) h.bytes h.len c 72 5 9 Try.underlying72 Try.underlying5 Try.underlying9
end Go.Proofs.Ytpnhklehpilopaa
