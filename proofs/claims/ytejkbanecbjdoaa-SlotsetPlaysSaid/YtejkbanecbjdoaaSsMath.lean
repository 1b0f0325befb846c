/- Sets of small numbers as the bits of one number; how many bits a number has. Of no program. -/
import Derived.Laws.BitsAllLaws
namespace Go.Proofs.Ytejkbanecbjdoaa
open Go

/-- The number whose bits below n are f's. -/
def num : Nat → (Nat → Bool) → Nat
  | 0, _ => 0
  | n + 1, f => num n f + if f n then 2 ^ n else 0

theorem num_lt : ∀ (n : Nat) (f : Nat → Bool), num n f < 2 ^ n
  | 0, _ => by simp [num]
  | n + 1, f => by
    have := num_lt n f
    rw [num, Nat.pow_succ]
    split <;> omega

theorem num_bit : ∀ (n : Nat) (f : Nat → Bool) (i : Nat), (num n f).testBit i = (decide (i < n) && f i)
  | 0, f, i => by simp [num]
  | n + 1, f, i => by
    have hlt := num_lt n f
    have ih := num_bit n f
    rw [num]
    by_cases hf : f n
    · rw [if_pos hf, Nat.add_comm]
      by_cases hi : i = n
      · subst hi
        rw [Nat.testBit_two_pow_add_eq, ih i]
        simp [hf]
      · by_cases hl : i < n
        · rw [Nat.testBit_two_pow_add_gt hl, ih i]
          simp [hl, Nat.lt_succ_of_lt hl]
        · have : n + 1 ≤ i := by omega
          rw [Nat.testBit_lt_two_pow (Nat.lt_of_lt_of_le (by rw [Nat.pow_succ]; omega : 2 ^ n + num n f < 2 ^ (n + 1)) (Nat.pow_le_pow_right (by decide) this))]
          simp; omega
    · rw [if_neg hf, Nat.add_zero, ih i]
      by_cases hi : i = n
      · subst hi; simp [hf]
      · have : (i < n) ↔ (i < n + 1) := by omega
        simp [this]

theorem num_ext {x n : Nat} {f : Nat → Bool} (h : ∀ i, x.testBit i = (decide (i < n) && f i)) : x = num n f :=
  Nat.eq_of_testBit_eq fun i => by rw [h, num_bit]

theorem num_congr {n : Nat} {f g : Nat → Bool} (h : ∀ i, i < n → f i = g i) : num n f = num n g :=
  num_ext fun i => by
    rw [num_bit]
    by_cases hi : i < n
    · simp [hi, h i hi]
    · simp [hi]

theorem num_zero (n : Nat) : num n (fun _ => false) = 0 := (num_ext fun i => by simp).symm

/-- f, with b at the place k. -/
def updB (f : Nat → Bool) (k : Nat) (b : Bool) : Nat → Bool := fun i => if i = k then b else f i

theorem num_or_bit {n k : Nat} (f : Nat → Bool) (hk : k < n) : num n f ||| 2 ^ k = num n (updB f k true) :=
  num_ext fun i => by
    rw [Nat.testBit_or, num_bit, Nat.testBit_two_pow, updB]
    by_cases h : i = k
    · subst h; simp [hk]
    · have : ¬ k = i := fun e => h e.symm
      simp [h, this]

theorem not_bit {y : Nat} (hy : y < 2 ^ 64) (i : Nat) : (18446744073709551615 - y).testBit i = (decide (i < 64) && !y.testBit i) := by
  have := Nat.testBit_two_pow_sub_succ (n := 64) (x := y) hy i
  have e : (2 ^ 64 - (y + 1)) = 18446744073709551615 - y := by omega
  rwa [e] at this

theorem num_clear_bit {n k : Nat} (f : Nat → Bool) (hn : n ≤ 64) (hk : k < n) : num n f &&& (18446744073709551615 - 2 ^ k) = num n (updB f k false) :=
  num_ext fun i => by
    have h64 : 2 ^ k < 2 ^ 64 := Nat.pow_lt_pow_right (by decide) (by omega)
    rw [Nat.testBit_and, num_bit, not_bit h64, Nat.testBit_two_pow, updB]
    by_cases h : i = k
    · subst h; simp
    · have : ¬ k = i := fun e => h e.symm
      by_cases hi : i < n
      · have : i < 64 := by omega
        simp [h, *]
      · simp [hi]

theorem num_or {n : Nat} (f g : Nat → Bool) : num n f ||| num n g = num n (fun i => f i || g i) :=
  num_ext fun i => by
    rw [Nat.testBit_or, num_bit, num_bit]
    cases decide (i < n) <;> simp

theorem num_minus {n : Nat} (f g : Nat → Bool) (hn : n ≤ 64) : num n f &&& (18446744073709551615 - num n g) = num n (fun i => f i && !g i) :=
  num_ext fun i => by
    have h64 : num n g < 2 ^ 64 := Nat.lt_of_lt_of_le (num_lt n g) (Nat.pow_le_pow_right (by decide) hn)
    rw [Nat.testBit_and, num_bit, not_bit h64, num_bit]
    by_cases hi : i < n
    · have : i < 64 := by omega
      simp [hi, this]
    · simp [hi]

theorem num_and_bit {n k : Nat} (f : Nat → Bool) : num n f &&& 2 ^ k = if k < n ∧ f k = true then 2 ^ k else 0 := by
  apply Nat.eq_of_testBit_eq
  intro i
  rw [Nat.testBit_and, num_bit, Nat.testBit_two_pow]
  by_cases hi : k = i
  · subst hi
    by_cases h1 : k < n <;> by_cases h2 : f k = true <;> simp [h1, h2]
  · split
    · rw [Nat.testBit_two_pow]; simp [hi]
    · simp [hi]

/-- The members below n. -/
def els (n : Nat) (f : Nat → Bool) : List Nat := (List.range n).filter f

theorem els_congr {n : Nat} {f g : Nat → Bool} (h : ∀ i, i < n → f i = g i) : els n f = els n g :=
  List.filter_congr fun i hi => h i (List.mem_range.1 hi)

theorem els_succ (n : Nat) (f : Nat → Bool) : els (n + 1) f = els n f ++ if f n then [n] else [] := by
  unfold els
  rw [List.range_succ, List.filter_append]
  congr 1
  by_cases h : f n <;> simp [h]

theorem els_length_le (n : Nat) (f : Nat → Bool) : (els n f).length ≤ n := by
  have := List.length_filter_le f (List.range n)
  rwa [List.length_range] at this

/-- How many bits a byte has. -/
def pc8 (d : Nat) : Nat := (els 8 (fun i => d.testBit i)).length
/-- The same, for k bytes. -/
def pcB : Nat → Nat → Nat
  | 0, _ => 0
  | k + 1, v => pc8 (v % 256) + pcB k (v / 256)

theorem els_add (a b : Nat) (f : Nat → Bool) : (els (a + b) f).length = (els a f).length + (els b (fun i => f (a + i))).length := by
  unfold els
  rw [List.range_add, List.filter_append, List.length_append, List.filter_map, List.length_map]
  rfl

theorem pcB_els : ∀ (k v : Nat), pcB k v = (els (8 * k) (fun i => v.testBit i)).length
  | 0, v => by simp [pcB, els]
  | k + 1, v => by
    rw [pcB, pcB_els k, show 8 * (k + 1) = 8 + 8 * k by omega, els_add, pc8]
    congr 1
    · congr 1
      apply els_congr
      intro i hi
      rw [show (256 : Nat) = 2 ^ 8 from rfl, Nat.testBit_mod_two_pow]
      simp [hi]
    · congr 2
      funext i
      rw [show (256 : Nat) = 2 ^ 8 from rfl, Nat.testBit_div_two_pow, Nat.add_comm]

theorem pcB_num {n : Nat} (f : Nat → Bool) (hn : n ≤ 64) : pcB 8 (num n f) = (els n f).length := by
  have e : 8 * 8 = n + (64 - n) := by omega
  rw [pcB_els, e, els_add]
  have h1 : els n (fun i => (num n f).testBit i) = els n f := els_congr fun i hi => by rw [num_bit]; simp [hi]
  have h2 : els (64 - n) (fun i => (num n f).testBit (n + i)) = [] := by
    unfold els
    rw [List.filter_eq_nil_iff]
    intro i _
    rw [num_bit, show decide (n + i < n) = false by simp]
    simp
  rw [h1, h2]
  simp

/-- The byte c, k times. -/
def mk (c : Nat) : Nat → Nat
  | 0 => 0
  | k + 1 => 256 * mk c k + c

theorem and_byte {q d m c : Nat} (hd : d < 256) (hc : c < 256) : (256 * q + d) &&& (256 * m + c) = 256 * (q &&& m) + (d &&& c) := by
  have hdc : d &&& c < 256 := Nat.lt_of_le_of_lt Nat.and_le_left hd
  have h1 : ((256 * q + d) &&& (256 * m + c)) / 2 ^ 8 = (256 * q + d) / 2 ^ 8 &&& (256 * m + c) / 2 ^ 8 := Nat.and_div_two_pow
  have h2 : ((256 * q + d) &&& (256 * m + c)) % 2 ^ 8 = ((256 * q + d) % 2 ^ 8) &&& ((256 * m + c) % 2 ^ 8) := Nat.and_mod_two_pow
  rw [show (256 * q + d) / 2 ^ 8 = q by omega, show (256 * m + c) / 2 ^ 8 = m by omega] at h1
  rw [show (256 * q + d) % 2 ^ 8 = d by omega, show (256 * m + c) % 2 ^ 8 = c by omega] at h2
  generalize (256 * q + d) &&& (256 * m + c) = z at *
  generalize q &&& m = y at *
  generalize d &&& c = x at *
  omega

/-- g at each of k bytes. -/
def mapB (g : Nat → Nat) : Nat → Nat → Nat
  | 0, _ => 0
  | k + 1, v => 256 * mapB g k (v / 256) + g (v % 256)

theorem mapB_lt {g : Nat → Nat} (hg : ∀ d, d < 256 → g d < 256) : ∀ (k v : Nat), mapB g k v < 256 ^ k
  | 0, v => by simp [mapB]
  | k + 1, v => by
    have h1 := mapB_lt hg k (v / 256)
    have h2 := hg (v % 256) (Nat.mod_lt _ (by decide))
    rw [mapB, Nat.pow_succ]
    omega

theorem mapB_mapB {g h : Nat → Nat} (hg : ∀ d, d < 256 → g d < 256) : ∀ (k v : Nat), mapB h k (mapB g k v) = mapB (fun d => h (g d)) k v
  | 0, v => rfl
  | k + 1, v => by
    have h2 := hg (v % 256) (Nat.mod_lt _ (by decide))
    simp only [mapB]
    rw [show (256 * mapB g k (v / 256) + g (v % 256)) / 256 = mapB g k (v / 256) by omega, show (256 * mapB g k (v / 256) + g (v % 256)) % 256 = g (v % 256) by omega, mapB_mapB hg k]

def g1 (d : Nat) : Nat := (d / 2 &&& 85) + (d &&& 85)
def g2 (d : Nat) : Nat := (d / 4 &&& 51) + (d &&& 51)
def g3 (d : Nat) : Nat := (d / 16 + d) &&& 15

set_option maxRecDepth 100000 in
theorem g1_all : ∀ d : Fin 256, g1 d.val < 256 ∧ g2 (g1 d.val) < 256 ∧ g2 (g1 d.val) % 16 ≤ 4 ∧ g2 (g1 d.val) / 16 ≤ 4 ∧ g3 (g2 (g1 d.val)) = pc8 d.val ∧ pc8 d.val ≤ 8 := by decide +kernel
set_option maxRecDepth 100000 in
theorem g1_high : ∀ (b : Fin 2) (d : Fin 256), (128 * b.val + d.val / 2) &&& 85 = d.val / 2 &&& 85 := by decide +kernel
set_option maxRecDepth 100000 in
theorem g2_high : ∀ (b : Fin 4) (d : Fin 256), (64 * b.val + d.val / 4) &&& 51 = d.val / 4 &&& 51 := by decide +kernel
set_option maxRecDepth 100000 in
theorem g3_high : ∀ (b : Fin 5) (d : Fin 128), (16 * b.val + d.val) &&& 15 = d.val &&& 15 := by decide +kernel

theorem step1 : ∀ (k v : Nat), v < 256 ^ k → (v / 2 &&& mk 85 k) + (v &&& mk 85 k) = mapB g1 k v
  | 0, v, _ => by simp [mk, mapB]
  | k + 1, v, hv => by
    have hq : v / 256 < 256 ^ k := by rw [Nat.pow_succ] at hv; omega
    have ih := step1 k (v / 256) hq
    have hh := g1_high ⟨v / 256 % 2, by omega⟩ ⟨v % 256, by omega⟩
    simp only at hh
    have e1 : v / 2 = 256 * (v / 256 / 2) + (128 * (v / 256 % 2) + v % 256 / 2) := by omega
    have e2 : v = 256 * (v / 256) + v % 256 := by omega
    have h1 : v / 2 &&& mk 85 (k + 1) = 256 * (v / 256 / 2 &&& mk 85 k) + (v % 256 / 2 &&& 85) := by
      rw [mk, e1, and_byte (by omega) (by decide), hh]
    have h2 : v &&& mk 85 (k + 1) = 256 * (v / 256 &&& mk 85 k) + (v % 256 &&& 85) := by
      rw [mk]
      conv => lhs; rw [e2]
      rw [and_byte (by omega) (by decide)]
    rw [h1, h2, mapB, ← ih, g1]
    omega

theorem step2 : ∀ (k v : Nat), v < 256 ^ k → (v / 4 &&& mk 51 k) + (v &&& mk 51 k) = mapB g2 k v
  | 0, v, _ => by simp [mk, mapB]
  | k + 1, v, hv => by
    have hq : v / 256 < 256 ^ k := by rw [Nat.pow_succ] at hv; omega
    have ih := step2 k (v / 256) hq
    have hh := g2_high ⟨v / 256 % 4, by omega⟩ ⟨v % 256, by omega⟩
    simp only at hh
    have e1 : v / 4 = 256 * (v / 256 / 4) + (64 * (v / 256 % 4) + v % 256 / 4) := by omega
    have e2 : v = 256 * (v / 256) + v % 256 := by omega
    have h1 : v / 4 &&& mk 51 (k + 1) = 256 * (v / 256 / 4 &&& mk 51 k) + (v % 256 / 4 &&& 51) := by
      rw [mk, e1, and_byte (by omega) (by decide), hh]
    have h2 : v &&& mk 51 (k + 1) = 256 * (v / 256 &&& mk 51 k) + (v % 256 &&& 51) := by
      rw [mk]
      conv => lhs; rw [e2]
      rw [and_byte (by omega) (by decide)]
    rw [h1, h2, mapB, ← ih, g2]
    omega

/-- All nibbles of k bytes are 4 at most. -/
def Low : Nat → Nat → Prop
  | 0, _ => True
  | k + 1, v => v % 256 % 16 ≤ 4 ∧ v % 256 / 16 ≤ 4 ∧ Low k (v / 256)

theorem low_map {h : Nat → Nat} (h8 : ∀ d, d < 256 → h d < 256 ∧ h d % 16 ≤ 4 ∧ h d / 16 ≤ 4) : ∀ (k v : Nat), Low k (mapB h k v)
  | 0, _ => trivial
  | k + 1, v => by
    obtain ⟨a, b, c⟩ := h8 (v % 256) (Nat.mod_lt _ (by decide))
    simp only [mapB, Low]
    rw [show (256 * mapB h k (v / 256) + h (v % 256)) / 256 = mapB h k (v / 256) by omega, show (256 * mapB h k (v / 256) + h (v % 256)) % 256 = h (v % 256) by omega]
    exact ⟨b, c, low_map h8 k _⟩

theorem step3 : ∀ (k v : Nat), v < 256 ^ k → Low k v → (v / 16 + v) &&& mk 15 k = mapB g3 k v
  | 0, v, _, _ => by simp [mk, mapB]
  | k + 1, v, hv, hl => by
    have hq : v / 256 < 256 ^ k := by rw [Nat.pow_succ] at hv; omega
    obtain ⟨l1, l2, l3⟩ := hl
    have ih := step3 k (v / 256) hq l3
    have hb : v / 256 % 16 ≤ 4 := by
      cases k with
      | zero => simp at hq; omega
      | succ k => have := l3.1; omega
    have hh := g3_high ⟨v / 256 % 16, by omega⟩ ⟨v % 256 / 16 + v % 256, by omega⟩
    simp only at hh
    have e1 : v / 16 + v = 256 * (v / 256 / 16 + v / 256) + (16 * (v / 256 % 16) + (v % 256 / 16 + v % 256)) := by omega
    rw [mk, e1, and_byte (by omega) (by decide), hh, ih, mapB, g3]

/-- What lies between the third step and the last. -/
theorem eight (v : Nat) : ∃ c0 c1 c2 c3 c4 c5 c6 c7 : Nat, c0 ≤ 8 ∧ c1 ≤ 8 ∧ c2 ≤ 8 ∧ c3 ≤ 8 ∧ c4 ≤ 8 ∧ c5 ≤ 8 ∧ c6 ≤ 8 ∧ c7 ≤ 8 ∧ pcB 8 v = c0 + c1 + c2 + c3 + c4 + c5 + c6 + c7 ∧
    mapB pc8 8 v = c0 + 256 * (c1 + 256 * (c2 + 256 * (c3 + 256 * (c4 + 256 * (c5 + 256 * (c6 + 256 * c7)))))) := by
  have hp : ∀ d, pc8 (d % 256) ≤ 8 := fun d => (g1_all ⟨d % 256, Nat.mod_lt _ (by decide)⟩).2.2.2.2.2
  refine ⟨_, _, _, _, _, _, _, _, hp v, hp (v / 256), hp (v / 256 / 256), hp (v / 256 / 256 / 256), hp (v / 256 / 256 / 256 / 256), hp (v / 256 / 256 / 256 / 256 / 256), hp (v / 256 / 256 / 256 / 256 / 256 / 256), hp (v / 256 / 256 / 256 / 256 / 256 / 256 / 256), ?_, ?_⟩
  · simp only [pcB]; omega
  · simp only [mapB]; omega

theorem div_one (c q : Nat) (h : c ≤ 64) : (c + 256 * q) / 256 = q := by omega
theorem div_two (a b q : Nat) (h : a ≤ 64) (h2 : b ≤ 64) : (a + 256 * (b + 256 * q)) / 65536 = q := by omega
theorem div_four (a b c d q : Nat) (h : a ≤ 64) (h2 : b ≤ 64) (h3 : c ≤ 64) (h4 : d ≤ 64) : (a + 256 * (b + 256 * (c + 256 * (d + 256 * q)))) / 4294967296 = q := by omega
theorem mod_low (a q : Nat) (h : a ≤ 64) : (a + 256 * q) % 128 = a := by omega

theorem and_seven (x : Nat) : x &&& 127 = x % 128 := Nat.and_two_pow_sub_one_eq_mod x 7

/-- The count by masks, in its six steps. -/
theorem ones_steps {v : Nat} (hv : v < 18446744073709551616) : ∃ y1 y2 y3 y4 y5 y6 : Nat,
    ((v / 2 &&& 6148914691236517205) + (v &&& 6148914691236517205) = y1 ∧ y1 < 18446744073709551616) ∧
    ((y1 / 4 &&& 3689348814741910323) + (y1 &&& 3689348814741910323) = y2 ∧ y2 < 18446744073709551616) ∧
    (y2 / 16 + y2 < 18446744073709551616 ∧ (y2 / 16 + y2) &&& 1085102592571150095 = y3) ∧
    (y3 + y3 / 256 = y4 ∧ y4 < 18446744073709551616) ∧ (y4 + y4 / 65536 = y5 ∧ y5 < 18446744073709551616) ∧ (y5 + y5 / 4294967296 = y6 ∧ y6 < 9223372036854775808) ∧ y6 &&& 127 = pcB 8 v := by
  have hg1 : ∀ d, d < 256 → g1 d < 256 := fun d hd => (g1_all ⟨d, hd⟩).1
  have hg2 : ∀ d, d < 256 → (fun d => g2 (g1 d)) d < 256 := fun d hd => (g1_all ⟨d, hd⟩).2.1
  have m1 : mk 85 8 = 6148914691236517205 := by decide
  have m2 : mk 51 8 = 3689348814741910323 := by decide
  have m3 : mk 15 8 = 1085102592571150095 := by decide
  have p8 : 256 ^ 8 = 18446744073709551616 := by decide
  have h1 := step1 8 v (by rw [p8]; exact hv)
  have b1 := mapB_lt hg1 8 v
  have h2 := step2 8 _ b1
  rw [mapB_mapB hg1] at h2
  have b2 := mapB_lt hg2 8 v
  have hl : Low 8 (mapB (fun d => g2 (g1 d)) 8 v) := low_map (fun d hd => ⟨(g1_all ⟨d, hd⟩).2.1, (g1_all ⟨d, hd⟩).2.2.1, (g1_all ⟨d, hd⟩).2.2.2.1⟩) 8 v
  have h3 := step3 8 _ b2 hl
  rw [mapB_mapB hg2] at h3
  have e3 : mapB (fun d => g3 (g2 (g1 d))) 8 v = mapB pc8 8 v := by
    have : ∀ k v, mapB (fun d => g3 (g2 (g1 d))) k v = mapB pc8 k v := by
      intro k
      induction k with
      | zero => intro v; rfl
      | succ k ih => intro v; simp only [mapB]; rw [ih, (g1_all ⟨v % 256, Nat.mod_lt _ (by decide)⟩).2.2.2.2.1]
    exact this 8 v
  rw [e3] at h3
  have top : mapB (fun d => g2 (g1 d)) 8 v / 16 + mapB (fun d => g2 (g1 d)) 8 v < 18446744073709551616 := by
    generalize mapB (fun d => g2 (g1 d)) 8 v = y at *
    simp only [Low] at hl
    rw [p8] at b2
    omega
  obtain ⟨c0, c1, c2, c3, c4, c5, c6, c7, a0, a1, a2, a3, a4, a5, a6, a7, hs, hm⟩ := eight v
  rw [m1] at h1; rw [m2] at h2; rw [m3] at h3; rw [p8] at b1 b2
  have e4 : mapB pc8 8 v + mapB pc8 8 v / 256 = (c0 + c1) + 256 * ((c1 + c2) + 256 * ((c2 + c3) + 256 * ((c3 + c4) + 256 * ((c4 + c5) + 256 * ((c5 + c6) + 256 * ((c6 + c7) + 256 * c7)))))) := by
    rw [hm, div_one _ _ (by omega)]
    clear h1 h2 h3 b1 b2 hm top hl hs hg1 hg2 m1 m2 m3 p8 e3 hv
    omega
  obtain ⟨y4, hy4⟩ : ∃ y, y = mapB pc8 8 v + mapB pc8 8 v / 256 := ⟨_, rfl⟩
  rw [← hy4] at e4
  have e5 : y4 + y4 / 65536 = (c0 + c1 + (c2 + c3)) + 256 * ((c1 + c2 + (c3 + c4)) + 256 * ((c2 + c3 + (c4 + c5)) + 256 * ((c3 + c4 + (c5 + c6)) + 256 * ((c4 + c5 + (c6 + c7)) + 256 * ((c5 + c6 + c7) + 256 * ((c6 + c7) + 256 * c7)))))) := by
    rw [e4, div_two _ _ _ (by omega) (by omega)]
    clear h1 h2 h3 b1 b2 hm top hl hs hg1 hg2 m1 m2 m3 p8 e3 hv e4 hy4
    omega
  obtain ⟨y5, hy5⟩ : ∃ y, y = y4 + y4 / 65536 := ⟨_, rfl⟩
  rw [← hy5] at e5
  have e6 : y5 + y5 / 4294967296 = (c0 + c1 + c2 + c3 + c4 + c5 + c6 + c7) + 256 * ((c1 + c2 + (c3 + c4)) + (c5 + c6 + c7) + 256 * ((c2 + c3 + (c4 + c5)) + (c6 + c7) + 256 * ((c3 + c4 + (c5 + c6)) + c7 + 256 * ((c4 + c5 + (c6 + c7)) + 256 * ((c5 + c6 + c7) + 256 * ((c6 + c7) + 256 * c7)))))) := by
    rw [e5, div_four _ _ _ _ _ (by omega) (by omega) (by omega) (by omega)]
    clear h1 h2 h3 b1 b2 hm top hl hs hg1 hg2 m1 m2 m3 p8 e3 hv e4 hy4 e5 hy5
    omega
  have t4 : y4 < 18446744073709551616 := by
    rw [e4]
    clear e4 e5 e6 hy4 hy5 h1 h2 h3 b1 b2 hm top hl hs hg1 hg2 m1 m2 m3 p8 e3 hv
    omega
  have t5 : y5 < 9223372028264841216 := by
    rw [e5]
    clear e4 e5 e6 hy4 hy5 h1 h2 h3 b1 b2 hm top hl hs hg1 hg2 m1 m2 m3 p8 e3 hv t4
    omega
  have t6 : y5 + y5 / 4294967296 < 9223372036854775808 := by
    clear h1 h2 h3 b1 b2 hm top hl hs hg1 hg2 m1 m2 m3 p8 e3 hv e4 hy4 e5 hy5 e6 t4
    omega
  have t5' : y5 < 18446744073709551616 := by
    clear h1 h2 h3 b1 b2 hm top hl hs hg1 hg2 m1 m2 m3 p8 e3 hv e4 hy4 e5 hy5 e6 t4 t6
    omega
  have t7 : (y5 + y5 / 4294967296) &&& 127 = pcB 8 v := by
    have hb : c0 + c1 + c2 + c3 + c4 + c5 + c6 + c7 ≤ 64 := by
      clear h1 h2 h3 b1 b2 hm top hl hs hg1 hg2 m1 m2 m3 p8 e3 hv e4 hy4 e5 hy5 e6 t4 t5 t5' t6
      omega
    rw [and_seven, hs, e6]
    generalize c0 + c1 + c2 + c3 + c4 + c5 + c6 + c7 = s at hb ⊢
    generalize (c1 + c2 + (c3 + c4)) + (c5 + c6 + c7) + 256 * ((c2 + c3 + (c4 + c5)) + (c6 + c7) + 256 * ((c3 + c4 + (c5 + c6)) + c7 + 256 * ((c4 + c5 + (c6 + c7)) + 256 * ((c5 + c6 + c7) + 256 * ((c6 + c7) + 256 * c7))))) = q
    exact mod_low s q hb
  exact ⟨_, _, _, y4, y5, _, ⟨h1, b1⟩, ⟨h2, b2⟩, ⟨top, h3⟩, ⟨hy4.symm, t4⟩, ⟨hy5.symm, t5'⟩, ⟨rfl, t6⟩, t7⟩
end Go.Proofs.Ytejkbanecbjdoaa
