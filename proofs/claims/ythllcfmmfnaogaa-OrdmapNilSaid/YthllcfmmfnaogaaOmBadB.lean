/- Maps that are none: nil, or made by neither New nor Copy. -/
import Derived.Test.YthllcfmmfnaogaaOmAllB
namespace Go.Proofs.Ythllcfmmfnaogaa
open Go Go.RowKit

attribute [local go_sem] Oper.semAt_some

/-- From this world on v is no map. -/
def VoidB (w0 : World) (v : Option Addr) : Prop := ∀ W, Below w0.heap.size w0 W → Calls Try.prog 92 #[.pointer v] W fun e w' => e = .returned (.bool false) ∧ w' = W

set_option maxHeartbeats 800000 in
set_option maxRecDepth 100000 in
theorem voidNilB (w0 : World) : VoidB w0 none := fun W _ => by
  go_enter Try.func92, Try.ntmps92
  go_wp2_with fail
  go_ret
  exact ⟨rfl, rfl⟩

/-- A pointer is not nil. -/
theorem run_eql_ptr_noneMB {P : Program} (w : World) {tp te : TypeId} (hp : P.underlying tp = some (.pointer te)) (hte : (P.info? te).isSome = true) (a : Addr) :
    (binOp .eql tp (.pointer none) (.pointer (some a))).run P w = .ok (.bool false) w := by
  obtain ⟨j, hj⟩ := Option.isSome_iff_exists.1 hte
  have h : ∀ d : Nat, (Op.equalIn (d + 1) tp (.pointer none) (.pointer (some a))).run P w = .ok false w := fun d => by
    by_cases hz : j.size = 0 <;> simp [Op.equalIn, run_underlying hp, sizeOf, typeInfo, hj, hz]
  simp only [binOp]
  simp [Op.equal, Op.maxDepth, h 9999]

set_option maxHeartbeats 800000 in
set_option maxRecDepth 100000 in
theorem voidZeroB (w0 : World) (b : Nat) (h : w0.cell? ⟨b, 0, none⟩ = some (.pointer none)) : VoidB w0 (some ⟨b, 0, none⟩) := fun W hb => by
  have hc := (hb.cell (p := ⟨b, 0, none⟩) (World.block_lt_of_cell? _ _ h)).trans h
  clear h hb
  have hq := fun w a => run_eql_ptr_noneMB (P := Try.prog) w Try.underlying24 (by kernel_rfl : (Try.prog.info? 40).isSome = true) a
  go_enter Try.func92, Try.ntmps92
  go_wp2_with fail
  go_ret
  exact ⟨rfl, rfl⟩

section
variable {w0 : World} {v : Option Addr}

set_option maxHeartbeats 800000 in
set_option maxRecDepth 100000 in
theorem listNB (h : VoidB w0 v) (W : World) (hb : Below w0.heap.size w0 W) : Calls Try.prog 188 #[.pointer v] W fun e w' => e = .returned (.slice none 0 0) ∧ w' = W := by
  have hv := h W hb
  clear h hb
  go_enter Try.func188, Try.ntmps188
  go_wp2_with fail
  refine hv.mono ?_
  rintro e w' ⟨rfl, rfl⟩
  go_wp2_with fail
  go_ret
  exact ⟨rfl, rfl⟩

set_option maxHeartbeats 800000 in
set_option maxRecDepth 100000 in
theorem pickNB (h : VoidB w0 v) (j : Int) (W : World) (hb : Below w0.heap.size w0 W) :
    Calls Try.prog 117 #[.pointer v, .int .i64 j] W fun e w' => e = .returned (.tuple #[.string ⟨#[]⟩, .string ⟨#[]⟩, .bool false]) ∧ Below W.heap.size W w' := by
  have hl := listNB h W hb
  clear h
  by_cases h0 : j < 0
  · have h0b : decide (j < 0) = true := by simpa using h0
    go_enter Try.func117, Try.ntmps117
    go_wp2_with (go_at_call 188; refine hl.mono ?_; rintro e w' ⟨rfl, rfl⟩)
    go_quiet (fail)
    go_wp2
    go_ret3
    exact ⟨rfl, Below.drewN' _ ((Below.refl _ _).alloc (Nat.le_refl _) _)⟩
  · have h0b : decide (j < 0) = false := by simpa using h0
    have h1b : decide ((0 : Int) ≤ j) = true := by simp; omega
    go_enter Try.func117, Try.ntmps117
    go_wp2_with (go_at_call 188; refine hl.mono ?_; rintro e w' ⟨rfl, rfl⟩)
    go_quiet (fail)
    go_wp2
    go_ret3
    exact ⟨rfl, Below.drewN' _ ((Below.refl _ _).alloc (Nat.le_refl _) _)⟩

set_option maxHeartbeats 800000 in
set_option maxRecDepth 100000 in
theorem searchNB (h : VoidB w0 v) (gb : Nat) (cb : Array Value) (W : World) (hb : Below w0.heap.size w0 W) :
    Calls Try.prog 189 #[.pointer v, .func (.func gb) #[] cb] W fun e w' => e = .returned (.int .i64 0) ∧ Below W.heap.size W w' := by
  have hl := listNB h (W.alloc (.cells #[.func (.func gb) #[] cb] 160)) (hb.trans (((Below.refl _ W).alloc (Nat.le_refl _) _).mono hb.size))
  clear h
  go_enter Try.func189, Try.ntmps189
  go_wp2_with (go_at_call 188; refine hl.mono ?_; rintro e w' ⟨rfl, rfl⟩)
  have hB1 : Below W.heap.size W ((W.alloc (.cells #[.func (.func gb) #[] cb] 160)).alloc (.cells #[.slice none 0 0] 38)) := ((Below.refl _ W).alloc (Nat.le_refl _) _).alloc (by simp) _
  refine (search_any 224 #[.pointer (some ⟨W.heap.size, 0, none⟩), .pointer (some ⟨W.heap.size + 1, 0, none⟩)] 0 0 (fun _ => true) _ (enters_of Try.func224 (by kernel_rfl) rfl) (by decide) ?_ (Nat.le_refl _) (fun t ht => by omega) (fun t _ _ => rfl)).mono ?_
  · intro W' i _ hi
    omega
  · rintro e w' ⟨rfl, hb2⟩
    go_wp2
    go_ret
    exact ⟨rfl, hB1.trans (hb2.mono (by simp; omega))⟩

set_option maxHeartbeats 800000 in
set_option maxRecDepth 100000 in
theorem rankNB (h : VoidB w0 v) (k : ByteArray) (W : World) (hb : Below w0.heap.size w0 W) :
    Calls Try.prog 112 #[.pointer v, Value.string k] W fun e w' => e = .returned (.int .i64 0) ∧ Below W.heap.size W w' := by
  have hB : Below W.heap.size W (W.alloc (.cells #[Value.string k] 9)) := (Below.refl _ W).alloc (Nat.le_refl _) _
  have hs := searchNB h 192 #[.pointer (some ⟨W.heap.size, 0, none⟩)] _ (hb.trans (hB.mono hb.size))
  clear h
  go_enter Try.func112, Try.ntmps112
  go_wp2_with (go_at_call 189; refine hs.mono ?_; rintro e w' ⟨rfl, hb2⟩)
  go_ret
  exact ⟨rfl, hB.trans (hb2.mono (by simp))⟩

set_option maxHeartbeats 800000 in
set_option maxRecDepth 100000 in
theorem floorNB (h : VoidB w0 v) (k : ByteArray) (W : World) (hb : Below w0.heap.size w0 W) :
    Calls Try.prog 100 #[.pointer v, Value.string k] W fun e w' => e = .returned (.tuple #[.string ⟨#[]⟩, .string ⟨#[]⟩, .bool false]) ∧ Below W.heap.size W w' := by
  have hB : Below W.heap.size W (W.alloc (.cells #[Value.string k] 9)) := (Below.refl _ W).alloc (Nat.le_refl _) _
  have hs := searchNB h 190 #[.pointer (some ⟨W.heap.size, 0, none⟩)] _ (hb.trans (hB.mono hb.size))
  have H := Lib.hid (And.intro h hb)
  clear h
  go_enter Try.func100, Try.ntmps100
  go_wp2_with fail
  refine hs.mono ?_
  rintro e w1 ⟨rfl, hb2⟩
  have hb3 := hB.trans (hb2.mono (by simp))
  go_wp2_with fail
  refine (pickNB H.out.1 _ _ (H.out.2.trans (hb3.mono H.out.2.size))).mono ?_
  rintro e w2 ⟨rfl, hb4⟩
  go_wp2_with fail
  go_ret3
  exact ⟨rfl, hb3.trans (hb4.mono hb3.size)⟩

set_option maxHeartbeats 800000 in
set_option maxRecDepth 100000 in
theorem ceilNB (h : VoidB w0 v) (k : ByteArray) (W : World) (hb : Below w0.heap.size w0 W) :
    Calls Try.prog 102 #[.pointer v, Value.string k] W fun e w' => e = .returned (.tuple #[.string ⟨#[]⟩, .string ⟨#[]⟩, .bool false]) ∧ Below W.heap.size W w' := by
  have hs := rankNB h k W hb
  have H := Lib.hid (And.intro h hb)
  clear h
  go_enter Try.func102, Try.ntmps102
  go_wp2_with fail
  refine hs.mono ?_
  rintro e w1 ⟨rfl, hb3⟩
  go_wp2_with fail
  refine (pickNB H.out.1 _ _ (H.out.2.trans (hb3.mono H.out.2.size))).mono ?_
  rintro e w2 ⟨rfl, hb4⟩
  go_wp2_with fail
  go_ret3
  exact ⟨rfl, hb3.trans (hb4.mono hb3.size)⟩

set_option maxHeartbeats 800000 in
set_option maxRecDepth 100000 in
theorem findNB (h : VoidB w0 v) (k : ByteArray) (W : World) (hb : Below w0.heap.size w0 W) :
    Calls Try.prog 93 #[.pointer v, Value.string k] W fun e w' => e = .returned (.tuple #[.int .i64 0, .bool false]) ∧ Below W.heap.size W w' := by
  have hs := rankNB h k W hb
  have H := Lib.hid (And.intro h hb)
  clear h
  go_enter Try.func93, Try.ntmps93
  go_wp2_with fail
  refine hs.mono ?_
  rintro e w1 ⟨rfl, hb3⟩
  go_wp2_with fail
  refine (pickNB H.out.1 _ _ (H.out.2.trans (hb3.mono H.out.2.size))).mono ?_
  rintro e w2 ⟨rfl, hb4⟩
  go_wp2_with fail
  go_ret2
  exact ⟨rfl, hb3.trans (hb4.mono hb3.size)⟩

set_option maxHeartbeats 800000 in
set_option maxRecDepth 100000 in
theorem getNB (h : VoidB w0 v) (k : ByteArray) (W : World) (hb : Below w0.heap.size w0 W) :
    Calls Try.prog 109 #[.pointer v, Value.string k] W fun e w' => e = .returned (.tuple #[.string ⟨#[]⟩, .bool false]) ∧ Below W.heap.size W w' := by
  have hs := findNB h k W hb
  clear h hb
  go_enter Try.func109, Try.ntmps109
  go_wp2_with fail
  refine hs.mono ?_
  rintro e w1 ⟨rfl, hb3⟩
  go_wp2_with fail
  go_ret2
  exact ⟨rfl, hb3⟩

set_option maxHeartbeats 800000 in
set_option maxRecDepth 100000 in
theorem delNB (h : VoidB w0 v) (k : ByteArray) (W : World) (hb : Below w0.heap.size w0 W) :
    Calls Try.prog 20 #[.pointer v, Value.string k] W fun e w' => e = .returned (.tuple #[.string ⟨#[]⟩, .bool false]) ∧ Below W.heap.size W w' := by
  have hs := findNB h k W hb
  clear h hb
  go_enter Try.func20, Try.ntmps20
  go_wp2_with fail
  refine hs.mono ?_
  rintro e w1 ⟨rfl, hb3⟩
  go_wp2_with fail
  go_ret2
  exact ⟨rfl, hb3⟩

set_option maxHeartbeats 800000 in
set_option maxRecDepth 100000 in
theorem lenMNB (h : VoidB w0 v) (W : World) (hb : Below w0.heap.size w0 W) :
    Calls Try.prog 110 #[.pointer v] W fun e w' => e = .returned (.int .i64 0) ∧ w' = W := by
  have hs := listNB h W hb
  clear h hb
  go_enter Try.func110, Try.ntmps110
  go_wp2_with fail
  refine hs.mono ?_
  rintro e w1 ⟨rfl, rfl⟩
  go_wp2_with fail
  go_ret
  exact ⟨rfl, rfl⟩

set_option maxHeartbeats 800000 in
set_option maxRecDepth 100000 in
theorem minNB (h : VoidB w0 v) (W : World) (hb : Below w0.heap.size w0 W) :
    Calls Try.prog 104 #[.pointer v] W fun e w' => e = .returned (.tuple #[.string ⟨#[]⟩, .string ⟨#[]⟩, .bool false]) ∧ Below W.heap.size W w' := by
  have hs := pickNB h 0 W hb
  clear h hb
  go_enter Try.func104, Try.ntmps104
  go_wp2_with fail
  refine hs.mono ?_
  rintro e w1 ⟨rfl, hb3⟩
  go_wp2_with fail
  go_ret3
  exact ⟨rfl, hb3⟩

set_option maxHeartbeats 800000 in
set_option maxRecDepth 100000 in
theorem maxNB (h : VoidB w0 v) (W : World) (hb : Below w0.heap.size w0 W) :
    Calls Try.prog 106 #[.pointer v] W fun e w' => e = .returned (.tuple #[.string ⟨#[]⟩, .string ⟨#[]⟩, .bool false]) ∧ Below W.heap.size W w' := by
  have hl := lenMNB h W hb
  have H := Lib.hid (And.intro h hb)
  clear h hb
  go_enter Try.func106, Try.ntmps106
  go_wp2_with fail
  refine hl.mono ?_
  rintro e w1 ⟨rfl, rfl⟩
  go_wp2_with fail
  refine (pickNB H.out.1 _ _ H.out.2).mono ?_
  rintro e w2 ⟨rfl, hb3⟩
  go_wp2_with fail
  go_ret3
  exact ⟨rfl, hb3⟩

set_option maxHeartbeats 800000 in
set_option maxRecDepth 100000 in
theorem atNB (h : VoidB w0 v) (j : Int) (W : World) (hb : Below w0.heap.size w0 W) :
    Calls Try.prog 26 #[.pointer v, .int .i64 j] W fun e w' => e = .returned (.tuple #[.string ⟨#[]⟩, .string ⟨#[]⟩, .int .i64 1]) ∧ Below W.heap.size W w' := by
  have hp := pickNB h j W hb
  have H := Lib.hid (And.intro h hb)
  clear h hb
  go_enter Try.func26, Try.ntmps26
  go_wp2_with fail
  refine hp.mono ?_
  rintro e w1 ⟨rfl, hb3⟩
  go_wp2_with fail
  refine (H.out.1 _ (H.out.2.trans (hb3.mono H.out.2.size))).mono ?_
  rintro e w2 ⟨rfl, rfl⟩
  go_wp2_with fail
  go_ret3
  exact ⟨rfl, hb3⟩

set_option maxHeartbeats 800000 in
set_option maxRecDepth 100000 in
theorem setNB (h : VoidB w0 v) (k : ByteArray) (x : ByteArray) (W : World) (hb : Below w0.heap.size w0 W) :
    Calls Try.prog 18 #[.pointer v, Value.string k, Value.string x] W fun e w' => e = .returned (.tuple #[.string ⟨#[]⟩, .bool false, .int .i64 1]) ∧ w' = W := by
  have hv := h W hb
  clear h hb
  go_enter Try.func18, Try.ntmps18
  go_wp2_with fail
  refine hv.mono ?_
  rintro e w1 ⟨rfl, rfl⟩
  go_wp2_with fail
  go_ret3
  exact ⟨rfl, rfl⟩

set_option maxHeartbeats 800000 in
set_option maxRecDepth 100000 in
theorem copyMNB (h : VoidB w0 v) (W : World) (hb : Below w0.heap.size w0 W) :
    Calls Try.prog 22 #[.pointer v] W fun e w' => e = .returned (.pointer none) ∧ w' = W := by
  have hv := h W hb
  clear h hb
  go_enter Try.func22, Try.ntmps22
  go_wp2_with fail
  refine hv.mono ?_
  rintro e w1 ⟨rfl, rfl⟩
  go_wp2_with fail
  go_ret
  exact ⟨rfl, rfl⟩
end

theorem prsNilB (W : World) (n₀ : Nat) (p : Option Addr) : PrsB W n₀ p [] := fun j x hx => by simp at hx

set_option maxRecDepth 100000 in
set_option maxHeartbeats 2000000 in
/-- All's iterator over a map that is none yields nothing. -/
theorem allNB (n : Nat) (hn : 3 ≤ n) {w0 : World} {v : Option Addr} (h : VoidB w0 v) (bm : Nat) (w : World) (hb : Below w0.heap.size w0 w) (hm : w.cell? ⟨bm, 0, none⟩ = some (.pointer v)) (Kp : World → World → Prop) :
    SeqStopsK Fence.wide n Try.prog 186 #[.pointer (some ⟨bm, 0, none⟩)] encB Kp (fun ys => ys = []) (fun _ => False) 0 w := fun lr J Jx W hW hJ hJx hY h0 => by
  have hm' := (hW.cell (World.block_lt_of_cell? _ _ hm)).trans hm
  have hlist := listNB h W (hb.trans (hW.mono hb.size))
  have heach := eachB_in (n - 1) (by omega) lr W.heap.size none 0 0 [] rfl (by decide) J (fun _ _ => False) (abNew_of hJ) (fun m pre x W1 hj hx => by simp at hx) W (Nat.le_refl _) (prsNilB _ _ _) h0
  have HE := Lib.hid heach
  have h1 : 1 ≤ n := by omega
  clear heach hm hb hW h hY hJ hJx h0
  refine callsIn_of_wp Try.func186 rfl trivial ?_ rfl
  simp only [Try.ntmps186, List.size_toArray, List.length_cons, List.length_nil, Nat.reduceAdd, Nat.reduceSub, Array.replicate_succ, Array.replicate_zero, List.push_toArray, List.append_toArray, List.nil_append, List.cons_append]
  gi_wp2_with fail
  refine ⟨trivial, (callsIn_wide.2 hlist).mono ?_⟩
  rintro e w' ⟨rfl, rfl⟩
  gi_wp2_with fail
  refine ⟨trivial, HE.out.mono ?_⟩
  rintro e w3 ⟨⟨v, rfl⟩, hor⟩
  gi_wp2_with fail
  go_end0
  rcases hor with hj | ⟨pre, -, hf⟩
  · exact ⟨⟨_, rfl⟩, .inl ⟨[], rfl, hj⟩⟩
  · exact hf.elim

set_option maxRecDepth 100000 in
set_option maxHeartbeats 2000000 in
/-- From's iterator over a map that is none yields nothing. -/
theorem fromNB (n : Nat) (hn : 3 ≤ n) {w0 : World} {v : Option Addr} (h : VoidB w0 v) (k : ByteArray) (bm bk : Nat) (w : World) (hb : Below w0.heap.size w0 w) (hm : w.cell? ⟨bm, 0, none⟩ = some (.pointer v)) (hk : w.cell? ⟨bk, 0, none⟩ = some (Value.string k)) (Kp : World → World → Prop) :
    SeqStopsK Fence.wide n Try.prog 194 #[.pointer (some ⟨bm, 0, none⟩), .pointer (some ⟨bk, 0, none⟩)] encB Kp (fun ys => ys = []) (fun _ => False) 0 w := fun lr J Jx W hW hJ hJx hY h0 => by
  have hm' := (hW.cell (World.block_lt_of_cell? _ _ hm)).trans hm
  have hk' := (hW.cell (World.block_lt_of_cell? _ _ hk)).trans hk
  have hbW := hb.trans (hW.mono hb.size)
  have hrank : ∀ W', Below W.heap.size W W' → CallsIn Fence.wide (n - 1) Try.prog 112 #[.pointer v, Value.string k] W' fun e w' => e = .returned (.int .i64 0) ∧ Below W.heap.size W w' := fun W' hb1 =>
    callsIn_wide.2 ((rankNB h k W' (hbW.trans (hb1.mono hbW.size))).mono fun e w' ⟨he, hb2⟩ => ⟨he, below_then hb1 hb2⟩)
  have hlist : ∀ W', Below W.heap.size W W' → CallsIn Fence.wide (n - 1) Try.prog 188 #[.pointer v] W' fun e w' => e = .returned (.slice none 0 0) ∧ w' = W' := fun W' hb1 => callsIn_wide.2 (listNB h W' (hbW.trans (hb1.mono hbW.size)))
  have heach : ∀ W', Below W.heap.size W W' → CallsIn Fence.wide (n - 1) Try.prog 187 #[.slice none 0 0, .func (.yield lr) #[] #[]] W' fun e W'' => (∃ v, e = .returned v) ∧ (J [] W'' ∨ ∃ pre, pre <+: [] ∧ (fun (_ : List (ByteArray × ByteArray)) (_ : World) => False) pre W'') := fun W' hb1 =>
    eachB_in (n - 1) (by omega) lr W.heap.size none 0 0 [] rfl (by decide) J (fun _ _ => False) (abNew_of hJ) (fun m pre x W1 hj hx => by simp at hx) W' hb1.size (prsNilB _ _ _) ((abNew_of hJ).below h0 hb1)
  have HE1 := Lib.hid heach
  have HRK := Lib.hid hrank
  have HLI := Lib.hid hlist
  have hb0 : Below W.heap.size W W.drew := (Below.refl _ _).drew
  have h1 : 1 ≤ n := by omega
  clear heach hrank hlist hm hk hb hW h hY hJ hJx h0 hbW
  refine callsIn_of_wp Try.func194 rfl trivial ?_ rfl
  simp only [Try.ntmps194, List.size_toArray, List.length_cons, List.length_nil, Nat.reduceAdd, Nat.reduceSub, Array.replicate_succ, Array.replicate_zero, List.push_toArray, List.append_toArray, List.nil_append, List.cons_append]
  gi_wp2
  gi_region_with (first | (refine ⟨trivial, ?_⟩; gi_at_call 188; refine (HLI.out _ (by assumption)).mono ?_; rintro e w' ⟨rfl, rfl⟩) | (refine ⟨trivial, ?_⟩; gi_at_call 112; refine (HRK.out _ (by assumption)).mono ?_; rintro e w1 ⟨rfl, hb1⟩) | (refine ⟨trivial, ?_⟩; gi_at_call 187; refine (HE1.out _ (by assumption)).mono ?_; rintro e w3 ⟨⟨v, rfl⟩, hor⟩))
  all_goals go_end0
  all_goals rcases hor with hj | ⟨pre, -, hf⟩
  all_goals first | exact hf.elim | exact ⟨⟨_, rfl⟩, .inl ⟨[], rfl, hj⟩⟩
end Go.Proofs.Ythllcfmmfnaogaa
