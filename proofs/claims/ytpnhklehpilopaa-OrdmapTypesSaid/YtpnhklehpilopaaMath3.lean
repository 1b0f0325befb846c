/- Plain mathematics: hexadecimal strings and back. -/
import Derived.Test.YtpnhklehpilopaaMath
namespace Go.Proofs.Ytpnhklehpilopaa
open Go Go.RowKit

/-- Digits of values below 16 are hexadecimal digits, and read back. -/
theorem hv_dgI {d : Int} (h0 : 0 ≤ d) (h1 : d < 16) : hvOk (dgI d) = true ∧ hv (dgI d) = d := by
  unfold dgI
  by_cases h : d < 10
  · rw [if_pos h]
    refine ⟨?_, ?_⟩
    · simp only [hvOk, Bool.or_eq_true, Bool.and_eq_true, decide_eq_true_eq]; left; omega
    · unfold hv; rw [if_pos (by omega)]; omega
  · rw [if_neg h]
    refine ⟨?_, ?_⟩
    · simp only [hvOk, Bool.or_eq_true, Bool.and_eq_true, decide_eq_true_eq]; right; omega
    · unfold hv; rw [if_neg (by omega), if_pos (by omega)]; omega

theorem dgI_hv {c : Int} (h : hvOk c = true) : dgI (hv c) = c := by
  simp only [hvOk, Bool.or_eq_true, Bool.and_eq_true, decide_eq_true_eq] at h
  unfold hv dgI
  rcases h with h | h
  · rw [if_pos h, if_pos (by omega)]; omega
  · rw [if_neg (by omega), if_pos h, if_neg (by omega)]; omega

theorem ph_hexI (l : List Int) (h : ∀ x ∈ l, 0 ≤ x ∧ x < 256) : phOk (hexI l) = true ∧ phV (hexI l) = l := by
  induction l with
  | nil => exact ⟨rfl, rfl⟩
  | cons x r ih =>
    have hx := h x (by simp)
    have ih := ih (fun y hy => h y (by simp [hy]))
    have h1 := hv_dgI (d := x / 16) (by omega) (by omega)
    have h2 := hv_dgI (d := x % 16) (by omega) (by omega)
    have e : hexI (x :: r) = dgI (x / 16) :: dgI (x % 16) :: hexI r := by simp [hexI]
    rw [e]
    refine ⟨?_, ?_⟩
    · simp only [phOk, h1.1, h2.1, ih.1, Bool.and_self]
    · simp only [phV, h1.2, h2.2, ih.2]
      congr 1
      omega

theorem hexI_phV (l : List Int) (h : phOk l = true) : hexI (phV l) = l := by
  match l, h with
  | [], _ => rfl
  | [_], h => simp [phOk] at h
  | a :: b :: r, h =>
    simp only [phOk, Bool.and_eq_true] at h
    have e : hexI (phV (a :: b :: r)) = dgI ((hv a * 16 + hv b) / 16) :: dgI ((hv a * 16 + hv b) % 16) :: hexI (phV r) := by simp [hexI, phV]
    have ha := hv_rng a
    have hb := hv_rng b
    rw [e, hexI_phV r h.2, show (hv a * 16 + hv b) / 16 = hv a by omega, show (hv a * 16 + hv b) % 16 = hv b by omega, dgI_hv h.1.1, dgI_hv h.1.2]

theorem numS_strI (l : List Int) (h : ∀ x ∈ l, 0 ≤ x ∧ x < 256) : numS (strI l) = l := by
  unfold numS strI Lib.bytesOf
  simp only [List.map_map]
  conv => rhs; rw [← List.map_id l]
  apply List.map_congr_left
  intro x hx
  have := h x hx
  simp only [Function.comp, UInt8.toNat_ofNat', id]
  omega

theorem strI_numS (s : ByteArray) : strI (numS s) = s := by
  unfold numS strI Lib.bytesOf
  simp only [List.map_map]
  have e : (List.map ((fun n : Int => UInt8.ofNat n.toNat) ∘ fun b : UInt8 => (b.toNat : Int)) s.data.toList) = s.data.toList := by
    conv => rhs; rw [← List.map_id s.data.toList]
    apply List.map_congr_left
    intro b _
    simp
  rw [e]

theorem strI_size (l : List Int) : (strI l).size = l.length := by
  show ((Lib.bytesOf l).toArray).size = l.length
  simp [Lib.bytesOf]

end Go.Proofs.Ytpnhklehpilopaa
