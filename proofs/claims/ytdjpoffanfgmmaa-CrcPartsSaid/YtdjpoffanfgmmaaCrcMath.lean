/- Plain mathematics of CRC-32: steps, feeding, shifting, tables, matrices. -/
import Derived.Test.YtdjpoffanfgmmaaSlices
namespace Go.Proofs.Ytdjpoffanfgmmaa

/-- The polynomial. -/
def crcP : BitVec 32 := 0xEDB88320#32
/-- All ones. -/
def crcF : BitVec 32 := 0xFFFFFFFF#32
/-- One step. -/
def cst (x : BitVec 32) : BitVec 32 := (x >>> 1) ^^^ (if x.getLsbD 0 then crcP else 0#32)
/-- Steps. -/
def csts : Nat → BitVec 32 → BitVec 32
  | 0, x => x
  | n + 1, x => cst (csts n x)
/-- A byte as a number of 32 bits. -/
def cbv (b : Int) : BitVec 32 := BitVec.ofInt 32 b
/-- A byte is fed. -/
def feed (x : BitVec 32) (b : Int) : BitVec 32 := csts 8 (x ^^^ cbv b)
/-- Bytes are fed. -/
def feeds (x : BitVec 32) (bs : List Int) : BitVec 32 := bs.foldl feed x
/-- What Update returns. -/
def crcU (s : BitVec 32) (bs : List Int) : BitVec 32 := feeds (s ^^^ crcF) bs ^^^ crcF
/-- A number shifted by n bytes. -/
def shf (x : BitVec 32) (n : Nat) : BitVec 32 := csts (8 * n) x

theorem xor_swap4 (a b c d : BitVec 32) : (a ^^^ b) ^^^ (c ^^^ d) = (a ^^^ c) ^^^ (b ^^^ d) := by
  ext i hi; simp only [BitVec.getElem_xor]; cases a[i] <;> cases b[i] <;> cases c[i] <;> cases d[i] <;> rfl

theorem cst_xor (x y : BitVec 32) : cst (x ^^^ y) = cst x ^^^ cst y := by
  unfold cst
  rw [BitVec.ushiftRight_xor_distrib, xor_swap4]
  congr 1
  rw [BitVec.getLsbD_xor]
  cases x.getLsbD 0 <;> cases y.getLsbD 0 <;> simp

theorem cst_zero : cst 0#32 = 0#32 := by decide

theorem csts_xor (n : Nat) (x y : BitVec 32) : csts n (x ^^^ y) = csts n x ^^^ csts n y := by
  induction n with
  | zero => rfl
  | succ n ih => simp only [csts, ih, cst_xor]

theorem csts_zero (n : Nat) : csts n 0#32 = 0#32 := by
  induction n with
  | zero => rfl
  | succ n ih => simp only [csts, ih, cst_zero]

theorem csts_add (m n : Nat) (x : BitVec 32) : csts (m + n) x = csts m (csts n x) := by
  induction m with
  | zero => rw [Nat.zero_add]; rfl
  | succ m ih => rw [Nat.succ_add]; simp only [csts, ih]

theorem xor_eq_zero {x y : BitVec 32} : x ^^^ y = 0#32 ↔ x = y := by
  constructor
  · intro h
    have : x ^^^ y ^^^ y = 0#32 ^^^ y := by rw [h]
    simpa [BitVec.xor_assoc] using this
  · rintro rfl; simp

theorem cst_eq_zero {x : BitVec 32} (h : cst x = 0#32) : x = 0#32 := by
  unfold cst at h
  have h31 : (x >>> 1 ^^^ (if x.getLsbD 0 then crcP else 0#32)).getLsbD 31 = false := by rw [h]; rfl
  rw [BitVec.getLsbD_xor, BitVec.getLsbD_ushiftRight] at h31
  have hx0 : x.getLsbD 0 = false := by
    cases h0 : x.getLsbD 0 with
    | false => rfl
    | true =>
      rw [h0] at h31
      simp [crcP] at h31
  rw [hx0] at h
  simp at h
  ext i hi
  rw [BitVec.getElem_zero]
  cases i with
  | zero => rw [← BitVec.getLsbD_eq_getElem]; exact hx0
  | succ i =>
    have := congrArg (fun v : BitVec 32 => v.getLsbD i) h
    simp only [BitVec.getLsbD_ushiftRight, BitVec.getLsbD_zero] at this
    rw [← BitVec.getLsbD_eq_getElem, Nat.add_comm]
    exact this

theorem cst_inj {x y : BitVec 32} (h : cst x = cst y) : x = y := by
  rw [← xor_eq_zero, ← cst_xor] at h
  exact xor_eq_zero.1 (cst_eq_zero h)

theorem csts_inj (n : Nat) {x y : BitVec 32} (h : csts n x = csts n y) : x = y := by
  induction n with
  | zero => exact h
  | succ n ih => exact ih (cst_inj h)

theorem shf_xor (x y : BitVec 32) (n : Nat) : shf (x ^^^ y) n = shf x n ^^^ shf y n := csts_xor _ _ _
theorem shf_zero (n : Nat) : shf 0#32 n = 0#32 := csts_zero _
theorem shf_add (x : BitVec 32) (m n : Nat) : shf (shf x m) n = shf x (m + n) := by
  unfold shf; rw [← csts_add]; congr 1; omega
theorem shf_inj (n : Nat) {x y : BitVec 32} (h : shf x n = shf y n) : x = y := csts_inj _ h
theorem shf_none (x : BitVec 32) : shf x 0 = x := rfl
theorem shf_one (x : BitVec 32) : shf x 1 = csts 8 x := rfl

theorem cbv_zero : cbv 0 = 0#32 := by decide

theorem feed_zero (x : BitVec 32) : feed x 0 = shf x 1 := by unfold feed; rw [cbv_zero, BitVec.xor_zero]; rfl

theorem feeds_append (x : BitVec 32) (a b : List Int) : feeds x (a ++ b) = feeds (feeds x a) b := by
  unfold feeds; rw [List.foldl_append]

theorem feeds_snoc (x : BitVec 32) (a : List Int) (b : Int) : feeds x (a ++ [b]) = feed (feeds x a) b := by
  rw [feeds_append]; rfl

/-- Feeding is shifting, and feeding into 0. -/
theorem feeds_shf (x : BitVec 32) (bs : List Int) : feeds x bs = shf x bs.length ^^^ feeds 0#32 bs := by
  induction bs generalizing x with
  | nil => simp [feeds, shf, csts]
  | cons b r ih =>
    have e1 : feeds x (b :: r) = feeds (feed x b) r := rfl
    have e2 : feeds 0#32 (b :: r) = feeds (feed 0#32 b) r := rfl
    rw [e1, e2, ih, ih (feed 0#32 b), ← BitVec.xor_assoc, List.length_cons]
    congr 1
    rw [Nat.add_comm, ← shf_add, ← shf_xor]
    congr 1
    unfold feed
    rw [BitVec.zero_xor, csts_xor]
    rfl

theorem crcU_append (s : BitVec 32) (a b : List Int) : crcU s (a ++ b) = crcU (crcU s a) b := by
  unfold crcU
  rw [feeds_append, BitVec.xor_assoc (feeds _ a), BitVec.xor_self, BitVec.xor_zero]

/-- The checksum of two strings, one behind the other, from theirs. -/
theorem crcU_comb (a b : List Int) : shf (crcU 0#32 a) b.length ^^^ crcU 0#32 b = crcU 0#32 (a ++ b) := by
  unfold crcU
  rw [feeds_append, feeds_shf (feeds _ a) b, feeds_shf (0#32 ^^^ crcF) b, shf_xor, BitVec.zero_xor]
  generalize shf (feeds crcF a) b.length = u
  generalize shf crcF b.length = v
  generalize feeds 0#32 b = z
  ext i hi
  simp only [BitVec.getElem_xor]
  cases u[i] <;> cases v[i] <;> cases z[i] <;> cases crcF[i] <;> rfl
end Go.Proofs.Ytdjpoffanfgmmaa
