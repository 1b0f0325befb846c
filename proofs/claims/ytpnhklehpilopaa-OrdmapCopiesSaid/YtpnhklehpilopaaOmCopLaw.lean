/- OrdmapCopies: the walk. (Its second part is written by gen_omcop.py.) -/
import Derived.Test.YtpnhklehpilopaaOmCopC
import Derived.Test.YtpnhklehpilopaaOmCopEq
import Derived.Test.YtpnhklehpilopaaOmWorks
import Derived.Deep.QuietTactic
import Derived.Deep.RegionHeld3
import Derived.BigQuiet
import Derived.Outline
import Derived.Maps.AppendAt
import Derived.Maps.OwnIn
namespace Go.Proofs.Ytpnhklehpilopaa
open Go Go.RowKit Go.Maps

attribute [local go_sem] Oper.semAt_some

/-- A pointer compared with nil. -/
theorem run_eql_nilC {P : Program} (w : World) {tp te : TypeId} (hp : P.underlying tp = some (.pointer te)) (hte : (P.info? te).isSome = true) (p : Option Addr) :
    (binOp .eql tp (.pointer p) (.pointer none)).run P w = .ok (.bool p.isNone) w := by
  obtain ⟨j, hj⟩ := Option.isSome_iff_exists.1 hte
  have h : ∀ d : Nat, (Op.equalIn (d + 1) tp (.pointer p) (.pointer none)).run P w = .ok p.isNone w := fun d => by
    cases p <;> by_cases hz : j.size = 0 <;> simp [Op.equalIn, run_underlying hp, sizeOf, typeInfo, hj, hz]
  simp only [binOp]
  simp [Op.equal, Op.maxDepth, h 9999]

/-- All that lay in W0 stays, but for the blocks from a to b. -/
structure Aft (W0 W : World) (a b : Nat) : Prop where
  os : W.os = W0.os
  tape : W.tape = W0.tape
  output : W.output = W0.output
  size : W0.heap.size ≤ W.heap.size
  block : ∀ k, k < W0.heap.size → ¬ (a ≤ k ∧ k < b) → W.heap[k]? = W0.heap[k]?

theorem Aft.refl (W : World) (a b : Nat) : Aft W W a b := ⟨rfl, rfl, rfl, Nat.le_refl _, fun _ _ _ => rfl⟩

theorem Aft.below {W0 W W' : World} {a b : Nat} (h : Aft W0 W a b) (hb : Below W.heap.size W W') : Aft W0 W' a b :=
  ⟨hb.os.trans h.os, hb.tape.trans h.tape, hb.output.trans h.output, Nat.le_trans h.size hb.size, fun k hk hn => (hb.block k (Nat.lt_of_lt_of_le hk h.size)).trans (h.block k hk hn)⟩

theorem Aft.touch {W0 W W' : World} {a b bb : Nat} {p : Option Addr} (h : Aft W0 W a b) (ht : Touch bb p W W') (hb : a ≤ bb ∧ bb < b) (hp : ∀ x, p = some x → (a ≤ x.block ∧ x.block < b) ∨ W0.heap.size ≤ x.block) : Aft W0 W' a b :=
  ⟨ht.os.trans h.os, ht.tape.trans h.tape, ht.output.trans h.output, Nat.le_trans h.size ht.size, fun k hk hn => (ht.block k (Nat.lt_of_lt_of_le hk h.size) (fun e => hn (by omega)) (fun x hx e => by have := hp x hx; omega)).trans (h.block k hk hn)⟩

/-- The map that is changed, while the calls go on. -/
structure Chg (W0 W : World) (S2 S3 b k : Nat) : Prop where
  map : ∃ p c l, MapC W S2 b p c l ∧ (∀ a, p = some a → (S2 ≤ a.block ∧ a.block < S3) ∨ W0.heap.size ≤ a.block) ∧ l.length ≤ k ∧ ∀ x ∈ l, -32768 ≤ x.1 ∧ x.1 ≤ 32767
  aft : Aft W0 W S2 S3

theorem Chg.below {W0 W W' : World} {S2 S3 b k : Nat} (h : Chg W0 W S2 S3 b k) (hb : Below W.heap.size W W') : Chg W0 W' S2 S3 b k := by
  obtain ⟨⟨p, c, l, hM, hp, hl, hk⟩, ha⟩ := h
  exact ⟨⟨p, c, l, hM.below hb, hp, hl, hk⟩, ha.below hb⟩

theorem chgSet {W0 W : World} {S2 S3 b k : Nat} (h : Chg W0 W S2 S3 b k) (hb : S2 ≤ b ∧ b < S3) (h3 : S3 ≤ W0.heap.size) (hk : k ≤ 1000) (key x : Int) (h0 : -32768 ≤ key) (h1 : key ≤ 32767) :
    Calls Try.prog 37 #[.pointer (some ⟨b, 0, none⟩), .int .i64 key, .int .i64 x] W fun e w' => ∃ (v : Int) (t : Bool), e = .returned (.tuple #[.int .i64 v, .bool t, .int .i64 0]) ∧ Hid (Chg W0 w' S2 S3 b (k + 1)) := by
  obtain ⟨⟨p, c, l, hM, hp, hl, hr⟩, ha⟩ := h
  have hsz := ha.size
  refine (setC hM (by omega) key x (by omega)).mono ?_
  rintro e w' ⟨rfl, p', c', hM', hT, hH⟩
  refine ⟨_, _, rfl, ⟨p', c', _, hM', fun a ha' => ?_, ?_, fun y hy => ?_⟩, ha.touch hT hb hp⟩
  · rcases hH a ha' with ⟨a0, e0, e1⟩ | h2
    · rw [← e1]; exact hp a0 e0
    · exact .inr (by omega)
  · have := len_set (lt := ltI) l key x; split at this <;> omega
  · rcases mem_set hy with rfl | hy
    · exact ⟨h0, h1⟩
    · exact hr y hy

theorem chgDel {W0 W : World} {S2 S3 b k : Nat} (h : Chg W0 W S2 S3 b k) (hb : S2 ≤ b ∧ b < S3) (h3 : S3 ≤ W0.heap.size) (hk : k ≤ 1000) (key : Int) :
    Calls Try.prog 36 #[.pointer (some ⟨b, 0, none⟩), .int .i64 key] W fun e w' => ∃ (v : Int) (t : Bool), e = .returned (.tuple #[.int .i64 v, .bool t]) ∧ Hid (Chg W0 w' S2 S3 b (k + 1)) := by
  obtain ⟨⟨p, c, l, hM, hp, hl, hr⟩, ha⟩ := h
  have hsz := ha.size
  refine (deleteC hM (by omega) key).mono ?_
  rintro e w' ⟨rfl, p', c', hM', hT, hH⟩
  refine ⟨_, _, rfl, ⟨p', c', _, hM', fun a ha' => ?_, ?_, fun y hy => hr y (mem_del hy)⟩, ha.touch hT hb hp⟩
  · rcases hH a ha' with ⟨a0, e0, e1⟩ | h2
    · rw [← e1]; exact hp a0 e0
    · exact .inr (by omega)
  · have := len_del ordI hM.srt key; split at this <;> omega

/-- What stands behind the calls: the first map and the second copy, the Go map in its box. -/
structure Std (W : World) (lim m d gb wb : Nat) (l : List (Int × Int)) (D : DataW Unit) : Prop where
  map : ∃ base p c, MapC W base m p c l ∧ ∀ a, p = some a → m ≤ a.block ∧ a.block < lim
  cpy : ∃ base p c, MapC W base d p c l ∧ ∀ a, p = some a → lim ≤ a.block
  own : W.ownsMap Try.prog 3 (plainElem Try.prog 3) gb 100 D
  wbox : Boxed W wb 47 (.map (some gb))

theorem Std.below {W W' : World} {lim m d gb wb : Nat} {l : List (Int × Int)} {D : DataW Unit} (h : Std W lim m d gb wb l D) (hb : Below W.heap.size W W') : Std W' lim m d gb wb l D := by
  obtain ⟨⟨b1, p1, c1, h1, e1⟩, ⟨b2, p2, c2, h2, e2⟩, h3, h4⟩ := h
  exact ⟨⟨b1, p1, c1, h1.below hb, e1⟩, ⟨b2, p2, c2, h2.below hb, e2⟩, ownsMap_same h3 (hb.block _ (ownsMap_lt h3)), (hb.block _ h4.lt).trans h4⟩

theorem val_wf {W : World} {gb nn : Nat} {l : List (Int × Int)} {D : DataW Unit} (h : W.ownsMap Try.prog 3 (plainElem Try.prog 3) gb nn D) (hag : Ag D l) (hs : Srt ltI l) (hr : ∀ x ∈ l, -32768 ≤ x.1 ∧ x.1 ≤ 32767) : ∀ x ∈ l, (Lit.int .i64 x.2).wf = true := fun x hx => by
  obtain ⟨k, v⟩ := x
  obtain ⟨j, hj, hjx⟩ := List.mem_iff_getElem.1 hx
  have hr' := hr _ hx
  dsimp only at hr' ⊢
  obtain ⟨cv, -, hat, hwf⟩ := h.lookup_int lawInt Try.underlying47 Try.underlying3 (zeroInt _) (keyOf_int_mk Try.underlying3 (wf_16 hr'.1 hr'.2))
  have h1 := hag.at' k
  rw [kGet_some ordI hs (j := j) (v := v) (by rw [← hjx]; exact List.getElem?_eq_getElem hj)] at h1
  have := dl_inj (hat.symm.trans h1)
  rw [this] at hwf
  exact hwf

/-- The length of the Go map. -/
theorem len_ownC {W : World} {gb nn : Nat} {l : List (Int × Int)} {D : DataW Unit} (h : W.ownsMap Try.prog 3 (plainElem Try.prog 3) gb nn D) (hag : Ag D l) (ty : TypeId) : (Builtin.len_ #[47] ty #[.map (some gb)]).run Try.prog W = .ok (.int .i64 l.length) W := by
  have := h.len Try.underlying47 ty
  rwa [hag.size] at this

/-- What stands while a map is read into a Go map: that map, its box, the count. -/
structure RS (X W : World) (g : Nat) (es : List (Int × Int)) : Prop where
  own : W.ownsMap Try.prog 3 (plainElem Try.prog 3) g es.length (gotD es)
  gbox : Boxed W (g + 1) 47 (.map (some g))
  sbox : Boxed W (g + 1 + 1) 3 (.int .i64 (es.length : Nat))
  bel : Below g X W

theorem rs_from {X : World} {g B : Nat} (hB : g + 2 < B) (f : List Nat → List (Int × Int)) : OwnFrom B (fun pre W => RS X W g (f pre)) := fun s W W' row ⟨h1, h2, h3, h4⟩ hg hr => by
  have keep : ∀ k, k < W.heap.size → k < B → W'.heap[k]? = W.heap[k]? := fun k hk hb => hg.block k hk (fun e => by have := (hr k e.symm).1; omega)
  have hl := h3.lt
  refine ⟨ownsMap_same h1 (keep _ (ownsMap_lt h1) (by omega)), (keep _ h2.lt (by omega)).trans h2, (keep _ h3.lt (by omega)).trans h3, ⟨hg.os.trans h4.os, hg.tape.trans h4.tape, hg.output.trans h4.output, Nat.le_trans h4.size hg.size, fun k hk => (keep k (by omega) (by omega)).trans (h4.block k hk)⟩⟩

theorem RS.put {X W : World} {g : Nat} {es : List (Int × Int)} (h : RS X W g es) (k v : Int) (B : Nat) (hB : g < B) :
    (W.setCell ⟨g + 1 + 1, 0, none⟩ (.int .i64 ((es.length : Int) + 1))).ownsMap Try.prog 3 (plainElem Try.prog 3) g es.length (gotD es) ∧ Boxed (W.setCell ⟨g + 1 + 1, 0, none⟩ (.int .i64 ((es.length : Int) + 1))) (g + 1) 47 (.map (some g)) ∧ Boxed (W.setCell ⟨g + 1 + 1, 0, none⟩ (.int .i64 ((es.length : Int) + 1))) (g + 1 + 1) 3 (.int .i64 ((es.length : Int) + 1)) ∧
      Below g W (W.setCell ⟨g + 1 + 1, 0, none⟩ (.int .i64 ((es.length : Int) + 1))) ∧
      ∀ w', w'.ownsMap Try.prog 3 (plainElem Try.prog 3) g (es.length + 1) ((gotD es).put (kl k) (dl v)) → (W.setCell ⟨g + 1 + 1, 0, none⟩ (.int .i64 ((es.length : Int) + 1))).grownBy w' (some g) → KeepsFrom B W w' ∧ Below g W w' ∧ RS X w' g (es ++ [(k, v)]) := by
  have hs := grownBy_setCell' W (g + 1 + 1) (.int .i64 ((es.length : Int) + 1))
  have hl := h.sbox.lt
  have b1 : Boxed (W.setCell ⟨g + 1 + 1, 0, none⟩ (.int .i64 ((es.length : Int) + 1))) (g + 1) 47 (.map (some g)) := (hs.block _ (by omega) (by intro e; injection e with e; omega)).trans h.gbox
  have b2 := h.sbox.set (.int .i64 ((es.length : Int) + 1))
  have hbl : Below g W (W.setCell ⟨g + 1 + 1, 0, none⟩ (.int .i64 ((es.length : Int) + 1))) := (Below.refl g W).setCell (p := ⟨g + 1 + 1, 0, none⟩) (by show g ≤ g + 1 + 1; omega) _
  refine ⟨ownsMap_same h.own (hs.block _ (by omega) (by intro e; injection e with e; omega)), b1, b2, hbl, fun w' ho hg => ?_⟩
  have hb2 : Below g W w' := hbl.grown hg (by have := hs.size; omega) (fun k e => by cases e; omega)
  have hz := hs.size
  refine ⟨((KeepsOthers.setCell W _ _).from B).trans (KeepsFrom.of_grownBy hg (fun j e => by cases e; exact hB)), hb2, ?_, (hg.block _ (by omega) (by intro e; injection e with e; omega)).trans b1, ?_, h.bel.trans hb2⟩
  · rw [List.length_append, List.length_singleton, gotD_snoc]; exact ho
  · rw [List.length_append, List.length_singleton, show (((es.length + 1 : Nat)) : Int) = (es.length : Int) + 1 from by omega]
    exact (hg.block _ (by omega) (by intro e; injection e with e; omega)).trans b2

/-- A key that no map of ours has. -/
theorem no_key {l : List (Int × Int)} (h : ∀ x ∈ l, -32768 ≤ x.1 ∧ x.1 ≤ 32767) : kHas l 70000 = false := by
  cases hh : kHas l 70000 with
  | false => rfl
  | true =>
    obtain ⟨x, hx, e⟩ := kHas_true.1 hh
    have := h x hx
    omega

set_option maxHeartbeats 8000000 in
set_option maxRecDepth 100000 in
theorem ordmapCopies_in (n : Nat) (hn : 10 ≤ n) (a : Option Addr) (len cap : Nat) (xs : List (Bool × Int × Int)) (hlen : xs.length = len) (hcap : len ≤ cap) (hc63 : cap ≤ 9223372036854775807) (a2 : Option Addr) (len2 cap2 : Nat) (ys : List (Bool × Int × Int)) (hlen2 : ys.length = len2) (hcap2 : len2 ≤ cap2) (hc632 : cap2 ≤ 9223372036854775807) (w : World) (hX : CallsAt w w.heap.size a xs) (hY : CallsAt w w.heap.size a2 ys) :
    CallsIn Fence.wide n Try.prog 6 #[.slice a len cap, .slice a2 len2 cap2] w fun e w' => e = .returned (.bool true) ∧ Below w.heap.size w w' := by
  have h1 : 1 ≤ n := by omega
  obtain ⟨W0, hW0⟩ : ∃ W0, W0 = w.alloc (.cells #[.bool false] 4) := ⟨_, rfl⟩
  have hs0 : W0.heap.size = w.heap.size + 1 := by rw [hW0]; simp
  have hb0 : Below w.heap.size w W0 := by rw [hW0]; exact (Below.refl _ _).alloc (Nat.le_refl _) _
  have bR : Boxed W0 w.heap.size 4 (.bool false) := by rw [hW0]; exact Boxed.new _ _ _
  have hf := filled_any a len cap xs hlen hcap hc63 W0 (by
    intro j x hx
    obtain ⟨⟨g, o, h⟩, hr⟩ := (hX.below hb0) j x hx
    exact ⟨⟨g, o, h.1, by omega, h.2.2⟩, hr⟩)
  rw [hs0] at hf
  obtain ⟨m, hm⟩ : ∃ m : Nat, m = min len2 50 := ⟨_, rfl⟩
  have hmin : min (len2 : Int) 50 = (m : Int) := by omega
  have hm50 : m ≤ 50 := by omega
  have hml : m ≤ len2 := by omega
  have hmc : (m : Int) ≤ (cap2 : Int) := by omega
  have hm0 : (0 : Int) ≤ (m : Int) := by omega
  have hq := fun w => run_eql_nilC (P := Try.prog) w Try.underlying46 (by kernel_rfl : (Try.prog.info? 183).isSome = true)
  have HF := Lib.hid hf
  have HY := Lib.hid hY
  have HL2 := Lib.hid hlen2
  have HB0 := Lib.hid (And.intro hb0 bR)
  have HC := Lib.hid (And.intro hcap2 hc632)
  clear hf hX hY bR hb0 hm hlen hlen2 hcap hc63
  refine callsIn_of_wp_marks Try.func6 rfl trivial ?_ rfl
  simp only [Try.ntmps6, List.size_toArray, List.length_nil, List.length_cons, Nat.reduceAdd, Nat.reduceSub, Array.replicate_succ, Array.replicate_zero, List.push_toArray, List.append_toArray, List.nil_append, List.cons_append]
  gi_wp2_with fail
  rw [← hW0]
  refine ⟨trivial, (callsIn_wide.2 HF.out).mono ?_⟩
  rintro e W1 ⟨rfl, ⟨p, c, l, D, hM, hown, hag, hll, hrg, hpb⟩, hb1⟩
  obtain ⟨W2, hW2⟩ : ∃ W2, W2 = W1.alloc (.cells #[.map (some (w.heap.size + 1 + 1))] 47) := ⟨_, rfl⟩
  have hs2 : W2.heap.size = W1.heap.size + 1 := by rw [hW2]; simp
  have hb2 : Below W1.heap.size W1 W2 := by rw [hW2]; exact (Below.refl _ _).alloc (Nat.le_refl _) _
  have bW : Boxed W2 W1.heap.size 47 (.map (some (w.heap.size + 1 + 1))) := by rw [hW2]; exact Boxed.new _ _ _
  have hM2 := hM.below hb2
  have HC1 := Lib.hid (copyC hM2 (by omega))
  have hsz1 := hb1.size
  have hwl := ownsMap_lt hown
  have HS := Lib.hid (And.intro hM2 (And.intro (ownsMap_same hown (hb2.block _ hwl)) (And.intro hag (And.intro hrg (And.intro bW (And.intro hb2 hb1))))))
  have HLL := Lib.hid hll
  clear hM hown hag hll hrg hpb hb1 hb2 bW hM2 hs0 hwl
  gi_wp2_with fail
  rw [← hW2]
  refine ⟨trivial, (callsIn_wide.2 HC1.out).mono ?_⟩
  rintro e W3 ⟨bc, pc, cc, rfl, hMc, hb3⟩
  have HC2 := Lib.hid (copyC (HS.out.1.below hb3) (by have := HLL.out; omega))
  have HM3 := Lib.hid (And.intro hMc hb3)
  clear hMc hb3 HC1
  gi_wp2_with fail
  refine ⟨trivial, (callsIn_wide.2 HC2.out).mono ?_⟩
  rintro e W4 ⟨bd, pd, cd, rfl, hMd, hb4⟩
  have HM4 := Lib.hid (And.intro hMd hb4)
  clear hMd hb4 HC2
  clear hW0 hW2 hs2
  have HBW : Hid (∀ wr, Aft W4 wr W2.heap.size W3.heap.size → Below w.heap.size w wr ∧ w.heap.size + 2 < W2.heap.size) := Lib.hid fun wr ha => by
    have h0 := HB0.out.1
    have h1 := HS.out.2.2.2.2.2.2
    have h2 := HS.out.2.2.2.2.2.1
    have h3 := HM3.out.2
    have h4 := HM4.out.2
    have e1 := h0.size
    have e2 := h1.size
    have e3 := h2.size
    have hw := ownsMap_lt HS.out.2.1
    have hbx := HS.out.2.2.2.2.1.lt
    have hB4 : Below w.heap.size w W4 := (((h0.trans (h1.mono (by omega))).trans (h2.mono (by omega))).trans (h3.mono (by omega))).trans (h4.mono (by have := h3.size; omega))
    refine ⟨⟨ha.os.trans hB4.os, ha.tape.trans hB4.tape, ha.output.trans hB4.output, Nat.le_trans hB4.size ha.size, fun k hk => (ha.block k (by have := hB4.size; omega) (by omega)).trans (hB4.block k hk)⟩, by omega⟩
  have HCH : Hid (Chg W4 W4 W2.heap.size W3.heap.size bc 100) := Lib.hid ⟨⟨pc, cc, l, HM3.out.1.below HM4.out.2, fun a ha => .inl (HM3.out.1.own ha), HLL.out, HS.out.2.2.2.1⟩, Aft.refl _ _ _⟩
  have hbc : W2.heap.size ≤ bc ∧ bc < W3.heap.size := ⟨HM3.out.1.low, HM3.out.1.lt⟩
  have h34 : W3.heap.size ≤ W4.heap.size := HM4.out.2.size
  gi_wp2_with fail
  gi_loopw [52] (fun i wr => ∃ j : Nat, j ≤ m ∧ i = .int .i64 j ∧ Hid (Chg W4 wr W2.heap.size W3.heap.size bc (100 + j))) (fun i _ => m - (intOf i).toNat)
  case atStart => exact ⟨0, Nat.zero_le _, rfl, HCH⟩
  case round =>
    obtain ⟨j, hj, rfl, HCg⟩ := hrel
    by_cases hlt : j < m
    · obtain ⟨x, hx⟩ : ∃ x, ys[j]? = some x := ⟨_, List.getElem?_eq_getElem (by rw [HL2.out]; omega)⟩
      obtain ⟨d, kk, vv⟩ := x
      obtain ⟨⟨g, o, ha, hg, c1, c2, c3⟩, hk0, hk1, hv0, hv1⟩ := (HY.out.below (HBW.out wr HCg.out.aft).1) j _ hx
      dsimp only at c1 c2 c3 hk0 hk1 hv0 hv1
      subst ha
      obtain ⟨A, hA⟩ : ∃ A, A = wr.alloc (.cells #[.bool d, .int .i16 kk, .int .i16 vv] 66) := ⟨_, rfl⟩
      have hbA : Below wr.heap.size wr A := by rw [hA]; exact (Below.refl _ _).alloc (Nat.le_refl _) _
      have hx3 : A.heap[wr.heap.size]? = some (.cells #[.bool d, .int .i16 kk, .int .i16 vv] 66 (0, 0)) := by rw [hA]; exact heap_alloc_new wr _
      have f0 : A.cell? ⟨wr.heap.size, 0, none⟩ = some (.bool d) := by simp [World.cell?, hx3]
      have f1 : A.cell? ⟨wr.heap.size, 1, none⟩ = some (.int .i16 kk) := by simp [World.cell?, hx3]
      have f2 : A.cell? ⟨wr.heap.size, 2, none⟩ = some (.int .i16 vv) := by simp [World.cell?, hx3]
      have HCA := Lib.hid (HCg.out.below hbA)
      have hj0 : (0 : Int) ≤ (j : Int) := by omega
      have hj1 : (j : Int) < (m : Int) := by omega
      have w1 : IntKind.i64.wrap kk = kk := by rw [IntKind.wrap_i64]; omega
      have w2 : IntKind.i64.wrap vv = vv := by rw [IntKind.wrap_i64]; omega
      clear hbA hx3 HCg hx
      cases d with
      | true =>
        gi_wp2_with fail
        try rw [← hA]
        refine ⟨trivial, (callsIn_wide.2 (chgDel HCA.out hbc h34 (by omega) kk)).mono ?_⟩
        rintro e V ⟨v0, t0, rfl, HV⟩
        clear hA f0 f1 f2 c1 c2 c3 HCA
        gi_wp2_with fail
        go_roundw
        case rel => exact ⟨j + 1, by omega, by go_num, HV⟩
        case measure => simp [intOf]; omega
      | false =>
        gi_wp2_with fail
        try rw [← hA]
        refine ⟨trivial, (callsIn_wide.2 (chgSet HCA.out hbc h34 (by omega) kk vv hk0 hk1)).mono ?_⟩
        rintro e V ⟨v0, t0, rfl, HV⟩
        clear hA f0 f1 f2 c1 c2 c3 HCA
        gi_wp2_with fail
        go_roundw
        case rel => exact ⟨j + 1, by omega, by go_num, HV⟩
        case measure => simp [intOf]; omega
    · obtain rfl : j = m := by omega
      have hafo := HCg.out.aft
      have hbw := (HBW.out wr hafo).1
      have h3w := (HBW.out wr hafo).2
      have hsw := hafo.size
      have h12 := HS.out.2.2.2.2.2.1.size
      have h1l := HS.out.2.2.2.2.1.lt
      have h24 : W2.heap.size ≤ W4.heap.size := by have := HM3.out.2.size; omega
      have hwl := ownsMap_lt HS.out.2.1
      have hd2 : Below W2.heap.size W2 W4 := HM3.out.2.trans (HM4.out.2.mono HM3.out.2.size)
      have hlow : ∀ k, k < W2.heap.size → wr.heap[k]? = W2.heap[k]? := fun k hk => (hafo.block k (by omega) (by omega)).trans (hd2.block k hk)
      have hStd : Std wr W2.heap.size (w.heap.size + 1) bd (w.heap.size + 1 + 1) W1.heap.size l D := ⟨⟨_, p, c, HS.out.1.same (by omega) (hlow _ HS.out.1.lt) (fun a ha => hlow _ (HS.out.1.own ha).2), fun a ha => HS.out.1.own ha⟩, ⟨_, pd, cd, HM4.out.1.same hsw (hafo.block _ HM4.out.1.lt (by have := HM4.out.1.low; omega)) (fun a ha => hafo.block _ (HM4.out.1.own ha).2 (by have := (HM4.out.1.own ha).1; omega)), fun a ha => by have := (HM4.out.1.own ha).1; have := HM3.out.2.size; omega⟩, ownsMap_same HS.out.2.1 (hlow _ hwl), (hlow _ h1l).trans HS.out.2.2.2.2.1⟩
      have bR : Boxed wr w.heap.size 4 (.bool false) := by
        have hb1 := HS.out.2.2.2.2.2.2
        have e1 := HB0.out.1.size
        have e2 := HB0.out.2.lt
        refine (hlow _ (by omega)).trans ((HS.out.2.2.2.2.2.1.block _ (by have := hb1.size; omega)).trans ((hb1.block _ (by omega)).trans HB0.out.2))
      obtain ⟨Z, hZ⟩ : ∃ Z, Z = wr.alloc (.cells #[.pointer (some ⟨w.heap.size + 1, 0, none⟩), .pointer (some ⟨bd, 0, none⟩)] 46) := ⟨_, rfl⟩
      have hZs : Z.heap.size = wr.heap.size + 1 := by rw [hZ]; simp
      have hbZ : Below wr.heap.size wr Z := by rw [hZ]; exact (Below.refl _ _).alloc (Nat.le_refl _) _
      have hZc : Z.heap[wr.heap.size]? = some (.cells #[.pointer (some ⟨w.heap.size + 1, 0, none⟩), .pointer (some ⟨bd, 0, none⟩)] 46 (0, 0)) := by rw [hZ]; exact heap_alloc_new wr _
      have HSTD : Hid (∀ U, Below Z.heap.size Z U → Std U W2.heap.size (w.heap.size + 1) bd (w.heap.size + 1 + 1) W1.heap.size l D ∧ U.cell? ⟨wr.heap.size, 0, none⟩ = some (.pointer (some ⟨w.heap.size + 1, 0, none⟩)) ∧ U.cell? ⟨wr.heap.size, 1, none⟩ = some (.pointer (some ⟨bd, 0, none⟩)) ∧ Boxed U w.heap.size 4 (.bool false) ∧ Below w.heap.size w U ∧ Chg W4 U W2.heap.size W3.heap.size bc (100 + j)) := Lib.hid fun U hU => by
        have hwU : Below wr.heap.size wr U := hbZ.trans (hU.mono (by omega))
        have hc := (hU.block _ (by omega)).trans hZc
        exact ⟨hStd.below hwU, by simp [World.cell?, hc], by simp [World.cell?, hc], (hwU.block _ bR.lt).trans bR, hbw.trans (hwU.mono hbw.size), HCg.out.below hwU⟩
      have HKV : Hid (Srt ltI l ∧ l.length ≤ 100 ∧ ∀ x ∈ l, (-32768 ≤ x.1 ∧ x.1 ≤ 32767) ∧ (Lit.int .i64 x.2).wf = true) := Lib.hid ⟨HS.out.1.srt, HLL.out, fun x hx => ⟨HS.out.2.2.2.1 x hx, val_wf HS.out.2.1 HS.out.2.2.1 HS.out.1.srt HS.out.2.2.2.1 x hx⟩⟩
      have HAG : Hid (Ag D l) := HS.out.2.2.1
      have HBC : Hid ((W2.heap.size ≤ bc ∧ bc < W3.heap.size) ∧ W3.heap.size ≤ W4.heap.size ∧ w.heap.size + 2 < W2.heap.size ∧ W2.heap.size ≤ bd ∧ W2.heap.size < Z.heap.size) := Lib.hid ⟨hbc, h34, h3w, by have := HM4.out.1.low; have := HM3.out.2.size; omega, by omega⟩
      have hmm := @run_makeMap Try.prog
      have HX0 : Hid (Below Z.heap.size Z Z) := Lib.hid (Below.refl _ _)
      clear HS HLL hStd bR hZs hbZ hZc hlow hafo hbw h3w hsw h12 h1l h24 hwl hd2 HCg HM3 HM4 HBW HY HL2 HC HB0 hq HF HCH hbc h34 hj
      gi_wp2_with fail
      rw [← hZ]
      clear hZ
      refine wpIn_loop_rounds 3 ?_
      rw [roundsIn_succ]
      obtain ⟨-, k0, k1, -, -, -⟩ := HSTD.out Z HX0.out
      gi_wp2_with fail
      refine ⟨trivial, (callsIn_wide.2 (allMakeC _ _)).mono ?_⟩
      rintro e Y0 ⟨rfl, rfl⟩
      gi_wp2_with fail
      obtain ⟨X0, hX0⟩ : ∃ X, X = (((Z.alloc (.map #[] 0)).alloc (.cells #[.map (some Z.heap.size)] 47)).alloc (.cells #[.int .i64 0] 3)).alloc (.cells #[.pointer (some ⟨w.heap.size + 1, 0, none⟩)] 46) := ⟨_, rfl⟩
      obtain ⟨g0, hg0⟩ : ∃ g, g = Z.heap.size := ⟨_, rfl⟩
      have hXs0 : X0.heap.size = g0 + 4 := by rw [hX0, hg0]; simp
      have hUX0 : Below g0 Z X0 := by rw [hX0, hg0]; exact ((((Below.refl _ _).alloc (Nat.le_refl _) _).alloc (by simp) _).alloc (by simp; omega) _).alloc (by simp; omega) _
      have o0 : X0.ownsMap Try.prog 3 (plainElem Try.prog 3) g0 0 (gotD []) := by
        rw [hX0, hg0]
        refine ownsMap_same (World.ownsMap_made _ _ _ _) ?_
        rw [Below.heap_alloc _ _ _ (by simp; omega), Below.heap_alloc _ _ _ (by simp; omega), Below.heap_alloc _ _ _ (by simp)]
      have b1 : Boxed X0 (g0 + 1) 47 (.map (some g0)) := by rw [hX0, hg0]; exact ((boxed_at (by simp) _ _).alloc _).alloc _
      have b2 : Boxed X0 (g0 + 1 + 1) 3 (.int .i64 0) := by rw [hX0, hg0]; exact (boxed_at (by simp) _ _).alloc _
      have b3 : Boxed X0 (g0 + 1 + 1 + 1) 46 (.pointer (some ⟨w.heap.size + 1, 0, none⟩)) := by rw [hX0, hg0]; exact boxed_at (by simp) _ _
      have hZg0 : Z.heap.size ≤ g0 := by rw [hg0]; exact HX0.out.size
      have hZX0 : Below Z.heap.size Z X0 := HX0.out.trans (hUX0.mono hZg0)
      obtain ⟨base'0, p'0, c'0, hMU0, -⟩ := (HSTD.out Z HX0.out).1.map
      have hMX0 : MapC X0 base'0 (w.heap.size + 1) p'0 c'0 l := hMU0.below (by rw [← hg0]; exact hUX0)
      have hpX0 : ∀ a, p'0 = some a → a.block < g0 := fun a ha => by rw [hg0]; exact (hMU0.own ha).2
      have hseq0 := allIdxC (n - 1) (by omega) (by have := HKV.out.2.1; omega) (g0 + 1 + 1 + 1) g0 X0 b3.cell hMX0 hpX0 (by omega) (pickI l) (fun j x hx => pickI_at hx)
      have hI0 : RS X0 X0 g0 [] := ⟨o0, b1, b2, Below.refl _ _⟩
      rw [← hX0, ← hg0]
      have HIX0 := Lib.hid hI0
      have HZX0 := Lib.hid hZX0
      have HUX0 := Lib.hid hUX0
      have HG0 := Lib.hid hg0
      clear hX0 hg0 hMX0 hMU0 o0 b1 b2 b3 k0 k1 hI0 hZX0 hUX0
      refine rangeG (encs := fun i => encC (pickI l i)) (fun x T => ((((T.setIfInBounds 89 (.int .i64 (pickI l x).1)).setIfInBounds 90 (.int .i64 (pickI l x).2)).setIfInBounds 19 (.int .i64 (pickI l x).1)).setIfInBounds 20 (.int .i64 (pickI l x).2))) rfl h1 (gf := 124) (lb := #[.pointer (some ⟨g0 + 1 + 1 + 1, 0, none⟩)]) rfl trivial (enters_of Try.func124 (by kernel_rfl) rfl)
        hseq0 belowK_t (belowK_b (by omega)) (Below.refl _ _) (fun _ => rfl) (fun pre W' => RS X0 W' g0 (pre.map (pickI l))) (fun _ _ _ => False) (rs_from (by omega) _) (fun _ _ _ _ _ h _ _ => h) HIX0.out ?assign0 ?body0 ?done0 ?stop0
      case assign0 =>
        intro lr x W' K hK
        clear hXs0 hseq0
        unfold encC
        gi_wp2
        exact hK
      case stop0 => exact fun _ _ _ _ _ _ h => h.elim
      case body0 =>
        intro lr pre x V hI hlt
        obtain ⟨kx, vx, hxp⟩ : ∃ k v, pickI l x = (k, v) := ⟨_, _, rfl⟩
        have hxm : (kx, vx) ∈ l := by rw [← hxp]; exact pickI_mem (by omega) x
        obtain ⟨⟨hk0, hk1⟩, hvw⟩ := HKV.out.2.2 _ hxm
        have hmap : (pre ++ [x]).map (pickI l) = pre.map (pickI l) ++ [(kx, vx)] := by rw [List.map_append, List.map_singleton, hxp]
        have hel : (pre.map (pickI l)).length = pre.length := List.length_map _
        rw [hxp]
        generalize pre.map (pickI l) = es at *
        have hcnt := hI.sbox.cell
        have hfz := hI.sbox.frozen
        obtain ⟨o1, bg, bs, hb1, hput⟩ := hI.put kx vx X0.heap.size (by omega)
        have hV := (HSTD.out _ (HZX0.out.trans ((hI.bel.trans hb1).mono hZg0))).1
        have hlen := fun ty => len_ownC hV.own HAG.out ty
        have cw := hV.wbox.cell
        have cg := bg.cell
        have cs := bs.cell
        have hll : l.length ≤ 100 := HKV.out.2.1
        have hnle : ¬ (l.length : Int) < (es.length : Int) + 1 := by omega
        rw [← hmap] at hput
        have HO1 := Lib.hid o1
        have HPUT := Lib.hid hput
        have HKEY := Lib.hid (keyOf_int_mk Try.underlying3 (wf_16 hk0 hk1))
        have HVW : Hid (plainElem Try.prog 3 (.int .i64 vx) = some (dl vx, [])) := plainElem_int Try.underlying3 hvw
        have hm9 : es.length < maxLen := by unfold maxLen; omega
        clear hXs0 hseq0 hI o1 hput bg bs hb1 hV hmap hel hxp hxm hvw hlt
        gi_wp2_with (gi_at_mapUpdate; refine wpListIn_mapUpdate_own _ rfl _ _ _ 47 rfl 3 3 lawInt Try.underlying47 _ g0 es.length (gotD es) rfl HO1.out hm9 _ _ _ rfl rfl HKEY.out (dl vx) [] HVW.out ?_; intro w6 hown6 hgrow6)
        exact HPUT.out _ hown6 hgrow6
      case done0 =>
        rintro D0 zs U0 hD0 rfl hI hK0
        have hzl : (List.range l.length).map (pickI l) = l := by
          apply List.ext_getElem (by simp)
          intro j h2 h3
          rw [List.getElem_map, List.getElem_range]
          exact pickI_at (List.getElem?_eq_getElem h3)
        rw [hzl] at hI
        have hZU0 : Below Z.heap.size Z U0 := HZX0.out.trans (hI.bel.mono hZg0)
        have HUU0 : Hid (Below Z.heap.size Z U0) := Lib.hid (by rw [← HG0.out]; exact HUX0.out.trans hI.bel)
        have HS0 : Hid (∀ V, Below U0.heap.size U0 V → V.cell? ⟨W1.heap.size, 0, none⟩ = some (.map (some (w.heap.size + 1 + 1))) ∧ V.cell? ⟨g0 + 1, 0, none⟩ = some (.map (some g0)) ∧ (∀ ty, (Builtin.len_ #[47] ty #[.map (some (w.heap.size + 1 + 1))]).run Try.prog V = .ok (.int .i64 l.length) V) ∧ Hid (Below U0.heap.size U0 V)) := Lib.hid fun V hV => by
          have hs := (HSTD.out V (hZU0.trans (hV.mono hZU0.size))).1
          exact ⟨hs.wbox.cell, Boxed.cell (t := 47) ((hV.block _ hI.gbox.lt).trans hI.gbox), fun ty => len_ownC hs.own HAG.out ty, Lib.hid hV⟩
        have HEQ : Hid (∀ V, Below U0.heap.size U0 V → Calls Try.prog 38 #[.map (some g0), .map (some (w.heap.size + 1 + 1))] V fun e w' => e = .returned (.bool true) ∧ Hid (Below U0.heap.size U0 w')) := Lib.hid fun V hV => by
          have hs := (HSTD.out V (hZU0.trans (hV.mono hZU0.size))).1
          have := mapsEq_any g0 (w.heap.size + 1 + 1) _ _ _ _ V (ownsMap_same hI.own (hV.block _ (ownsMap_lt hI.own))) hs.own
          rw [got_eq HKV.out.1 HAG.out] at this
          refine this.mono ?_
          rintro e w' ⟨rfl, hg⟩
          exact ⟨rfl, Lib.hid (hV.trans ((Below.refl V.heap.size V).grown hg (Nat.le_refl _) (fun k e => by cases e) |>.mono hV.size))⟩
        have HLN : Hid (∀ V, Below U0.heap.size U0 V → Calls Try.prog 33 #[.pointer (some ⟨w.heap.size + 1, 0, none⟩)] V fun e w' => e = .returned (.int .i64 l.length) ∧ w' = V) := Lib.hid fun V hV => by
          obtain ⟨b9, p9, c9, h9, -⟩ := (HSTD.out V (hZU0.trans (hV.mono hZU0.size))).1.map
          exact lenC h9
        have HZU0 := Lib.hid hZU0
        have HK0 := Lib.hid hK0
        have HD0 : Hid (Z.heap.size ≤ D0) := Lib.hid (by omega)
        have hzz : (l.length == l.length) = true := by simp
        have hne9 : ((l.length : Int) != (l.length : Int)) = false := by simp
        obtain ⟨q1, q2, q3, q4⟩ := HS0.out U0 (Below.refl _ _)
        clear hI hZU0 hK0 hseq0 hXs0 hpX0 hzl HIX0 HZX0
        gi_wp2_with fail
        refine wpIn_wide.2 ?_
        go_region_held3 (fun V => V.cell? ⟨W1.heap.size, 0, none⟩ = some (.map (some (w.heap.size + 1 + 1))) ∧ V.cell? ⟨g0 + 1, 0, none⟩ = some (.map (some g0)) ∧ (∀ ty, (Builtin.len_ #[47] ty #[.map (some (w.heap.size + 1 + 1))]).run Try.prog V = .ok (.int .i64 l.length) V) ∧ Hid (Below U0.heap.size U0 V))
          (first
            | exact HS0.out _ (Below.refl _ _).drew
            | exact HS0.out _ hbE.out
            | assumption)
          (first
            | (go_at_call 33; refine (HLN.out _ hbE.out).mono ?_; rintro e wB0 ⟨rfl, rfl⟩)
            | (go_at_call 38; refine (HEQ.out _ (Below.refl _ _).drew).mono ?_; rintro e wE ⟨rfl, hbE⟩))
        all_goals
          clear q1 q2 q3 q4
          have HX1 : Hid (Below Z.heap.size Z wB0) := Lib.hid (HZU0.out.trans (hbE.out.mono HZU0.out.size))
          have HBK0 : Hid (Below U0.heap.size U0 wB0) := hbE
          clear hbE hzz hne9 HEQ HLN HS0 hZg0
          gi_wp2_with fail
          rw [roundsIn_succ]
          obtain ⟨-, k0, k1, -, -, -⟩ := HSTD.out wB0 HX1.out
          gi_wp2_with fail
          refine ⟨trivial, (callsIn_wide.2 (allMakeC _ _)).mono ?_⟩
          rintro e Y1 ⟨rfl, rfl⟩
          gi_wp2_with fail
          obtain ⟨X1, hX1⟩ : ∃ X, X = (((wB0.alloc (.map #[] 0)).alloc (.cells #[.map (some wB0.heap.size)] 47)).alloc (.cells #[.int .i64 0] 3)).alloc (.cells #[.pointer (some ⟨bd, 0, none⟩)] 46) := ⟨_, rfl⟩
          obtain ⟨g1, hg1⟩ : ∃ g, g = wB0.heap.size := ⟨_, rfl⟩
          have hXs1 : X1.heap.size = g1 + 4 := by rw [hX1, hg1]; simp
          have hUX1 : Below g1 wB0 X1 := by rw [hX1, hg1]; exact ((((Below.refl _ _).alloc (Nat.le_refl _) _).alloc (by simp) _).alloc (by simp; omega) _).alloc (by simp; omega) _
          have o0 : X1.ownsMap Try.prog 3 (plainElem Try.prog 3) g1 0 (gotD []) := by
            rw [hX1, hg1]
            refine ownsMap_same (World.ownsMap_made _ _ _ _) ?_
            rw [Below.heap_alloc _ _ _ (by simp; omega), Below.heap_alloc _ _ _ (by simp; omega), Below.heap_alloc _ _ _ (by simp)]
          have b1 : Boxed X1 (g1 + 1) 47 (.map (some g1)) := by rw [hX1, hg1]; exact ((boxed_at (by simp) _ _).alloc _).alloc _
          have b2 : Boxed X1 (g1 + 1 + 1) 3 (.int .i64 0) := by rw [hX1, hg1]; exact (boxed_at (by simp) _ _).alloc _
          have b3 : Boxed X1 (g1 + 1 + 1 + 1) 46 (.pointer (some ⟨bd, 0, none⟩)) := by rw [hX1, hg1]; exact boxed_at (by simp) _ _
          have hZg1 : Z.heap.size ≤ g1 := by rw [hg1]; exact HX1.out.size
          have hZX1 : Below Z.heap.size Z X1 := HX1.out.trans (hUX1.mono hZg1)
          obtain ⟨base'1, p'1, c'1, hMU1, -⟩ := (HSTD.out wB0 HX1.out).1.cpy
          have hMX1 : MapC X1 base'1 (bd) p'1 c'1 l := hMU1.below (by rw [← hg1]; exact hUX1)
          have hpX1 : ∀ a, p'1 = some a → a.block < g1 := fun a ha => by rw [hg1]; exact (hMU1.own ha).2
          have hseq1 := allIdxC (n - 1) (by omega) (by have := HKV.out.2.1; omega) (g1 + 1 + 1 + 1) g1 X1 b3.cell hMX1 hpX1 (by omega) (pickI l) (fun j x hx => pickI_at hx)
          have hI1 : RS X1 X1 g1 [] := ⟨o0, b1, b2, Below.refl _ _⟩
          rw [← hX1, ← hg1]
          have HIX1 := Lib.hid hI1
          have HZX1 := Lib.hid hZX1
          have HUX1 := Lib.hid hUX1
          have HG1 := Lib.hid hg1
          clear hX1 hg1 hMX1 hMU1 o0 b1 b2 b3 k0 k1 hI1 hZX1 hUX1
          refine rangeG (encs := fun i => encC (pickI l i)) (fun x T => ((((T.setIfInBounds 89 (.int .i64 (pickI l x).1)).setIfInBounds 90 (.int .i64 (pickI l x).2)).setIfInBounds 19 (.int .i64 (pickI l x).1)).setIfInBounds 20 (.int .i64 (pickI l x).2))) rfl h1 (gf := 124) (lb := #[.pointer (some ⟨g1 + 1 + 1 + 1, 0, none⟩)]) rfl trivial (enters_of Try.func124 (by kernel_rfl) rfl)
            hseq1 belowK_t (belowK_b (by omega)) (Below.refl _ _) (fun _ => rfl) (fun pre W' => RS X1 W' g1 (pre.map (pickI l))) (fun _ _ _ => False) (rs_from (by omega) _) (fun _ _ _ _ _ h _ _ => h) HIX1.out ?assign1 ?body1 ?done1 ?stop1
          case assign1 =>
            intro lr x W' K hK
            clear hXs1 hseq1
            unfold encC
            gi_wp2
            exact hK
          case stop1 => exact fun _ _ _ _ _ _ h => h.elim
          case body1 =>
            intro lr pre x V hI hlt
            obtain ⟨kx, vx, hxp⟩ : ∃ k v, pickI l x = (k, v) := ⟨_, _, rfl⟩
            have hxm : (kx, vx) ∈ l := by rw [← hxp]; exact pickI_mem (by omega) x
            obtain ⟨⟨hk0, hk1⟩, hvw⟩ := HKV.out.2.2 _ hxm
            have hmap : (pre ++ [x]).map (pickI l) = pre.map (pickI l) ++ [(kx, vx)] := by rw [List.map_append, List.map_singleton, hxp]
            have hel : (pre.map (pickI l)).length = pre.length := List.length_map _
            rw [hxp]
            generalize pre.map (pickI l) = es at *
            have hcnt := hI.sbox.cell
            have hfz := hI.sbox.frozen
            obtain ⟨o1, bg, bs, hb1, hput⟩ := hI.put kx vx X1.heap.size (by omega)
            have hV := (HSTD.out _ (HZX1.out.trans ((hI.bel.trans hb1).mono hZg1))).1
            have hlen := fun ty => len_ownC hV.own HAG.out ty
            have cw := hV.wbox.cell
            have cg := bg.cell
            have cs := bs.cell
            have hll : l.length ≤ 100 := HKV.out.2.1
            have hnle : ¬ (l.length : Int) < (es.length : Int) + 1 := by omega
            rw [← hmap] at hput
            have HO1 := Lib.hid o1
            have HPUT := Lib.hid hput
            have HKEY := Lib.hid (keyOf_int_mk Try.underlying3 (wf_16 hk0 hk1))
            have HVW : Hid (plainElem Try.prog 3 (.int .i64 vx) = some (dl vx, [])) := plainElem_int Try.underlying3 hvw
            have hm9 : es.length < maxLen := by unfold maxLen; omega
            clear hXs1 hseq1 hI o1 hput bg bs hb1 hV hmap hel hxp hxm hvw hlt
            gi_wp2_with (gi_at_mapUpdate; refine wpListIn_mapUpdate_own _ rfl _ _ _ 47 rfl 3 3 lawInt Try.underlying47 _ g1 es.length (gotD es) rfl HO1.out hm9 _ _ _ rfl rfl HKEY.out (dl vx) [] HVW.out ?_; intro w6 hown6 hgrow6)
            exact HPUT.out _ hown6 hgrow6
          case done1 =>
            rintro D1 zs U1 hD1 rfl hI hK1
            have hzl : (List.range l.length).map (pickI l) = l := by
              apply List.ext_getElem (by simp)
              intro j h2 h3
              rw [List.getElem_map, List.getElem_range]
              exact pickI_at (List.getElem?_eq_getElem h3)
            rw [hzl] at hI
            have hZU1 : Below Z.heap.size Z U1 := HZX1.out.trans (hI.bel.mono hZg1)
            have HUU1 : Hid (Below wB0.heap.size wB0 U1) := Lib.hid (by rw [← HG1.out]; exact HUX1.out.trans hI.bel)
            have HS1 : Hid (∀ V, Below U1.heap.size U1 V → V.cell? ⟨W1.heap.size, 0, none⟩ = some (.map (some (w.heap.size + 1 + 1))) ∧ V.cell? ⟨g1 + 1, 0, none⟩ = some (.map (some g1)) ∧ (∀ ty, (Builtin.len_ #[47] ty #[.map (some (w.heap.size + 1 + 1))]).run Try.prog V = .ok (.int .i64 l.length) V) ∧ Hid (Below U1.heap.size U1 V)) := Lib.hid fun V hV => by
              have hs := (HSTD.out V (hZU1.trans (hV.mono hZU1.size))).1
              exact ⟨hs.wbox.cell, Boxed.cell (t := 47) ((hV.block _ hI.gbox.lt).trans hI.gbox), fun ty => len_ownC hs.own HAG.out ty, Lib.hid hV⟩
            have HEQ : Hid (∀ V, Below U1.heap.size U1 V → Calls Try.prog 38 #[.map (some g1), .map (some (w.heap.size + 1 + 1))] V fun e w' => e = .returned (.bool true) ∧ Hid (Below U1.heap.size U1 w')) := Lib.hid fun V hV => by
              have hs := (HSTD.out V (hZU1.trans (hV.mono hZU1.size))).1
              have := mapsEq_any g1 (w.heap.size + 1 + 1) _ _ _ _ V (ownsMap_same hI.own (hV.block _ (ownsMap_lt hI.own))) hs.own
              rw [got_eq HKV.out.1 HAG.out] at this
              refine this.mono ?_
              rintro e w' ⟨rfl, hg⟩
              exact ⟨rfl, Lib.hid (hV.trans ((Below.refl V.heap.size V).grown hg (Nat.le_refl _) (fun k e => by cases e) |>.mono hV.size))⟩
            have HLN : Hid (∀ V, Below U1.heap.size U1 V → Calls Try.prog 33 #[.pointer (some ⟨bd, 0, none⟩)] V fun e w' => e = .returned (.int .i64 l.length) ∧ w' = V) := Lib.hid fun V hV => by
              obtain ⟨b9, p9, c9, h9, -⟩ := (HSTD.out V (hZU1.trans (hV.mono hZU1.size))).1.cpy
              exact lenC h9
            have HZU1 := Lib.hid hZU1
            have HK1 := Lib.hid hK1
            have HD1 : Hid (Z.heap.size ≤ D1) := Lib.hid (by omega)
            have HDX : Hid (wB0.heap.size ≤ D1) := Lib.hid (by have := HG1.out; omega)
            have hzz : (l.length == l.length) = true := by simp
            have hne9 : ((l.length : Int) != (l.length : Int)) = false := by simp
            obtain ⟨q1, q2, q3, q4⟩ := HS1.out U1 (Below.refl _ _)
            clear hI hZU1 hK1 hseq1 hXs1 hpX1 hzl HIX1 HZX1
            gi_wp2_with fail
            refine wpIn_wide.2 ?_
            go_region_held3 (fun V => V.cell? ⟨W1.heap.size, 0, none⟩ = some (.map (some (w.heap.size + 1 + 1))) ∧ V.cell? ⟨g1 + 1, 0, none⟩ = some (.map (some g1)) ∧ (∀ ty, (Builtin.len_ #[47] ty #[.map (some (w.heap.size + 1 + 1))]).run Try.prog V = .ok (.int .i64 l.length) V) ∧ Hid (Below U1.heap.size U1 V))
              (first
                | exact HS1.out _ (Below.refl _ _).drew
                | exact HS1.out _ hbE.out
                | assumption)
              (first
                | (go_at_call 33; refine (HLN.out _ hbE.out).mono ?_; rintro e wB1 ⟨rfl, rfl⟩)
                | (go_at_call 38; refine (HEQ.out _ (Below.refl _ _).drew).mono ?_; rintro e wE ⟨rfl, hbE⟩))
            all_goals
              clear q1 q2 q3 q4
              have HX2 : Hid (Below Z.heap.size Z wB1) := Lib.hid (HZU1.out.trans (hbE.out.mono HZU1.out.size))
              have HBK1 : Hid (Below U1.heap.size U1 wB1) := hbE
              clear hbE hzz hne9 HEQ HLN HS1 hZg1
              gi_wp2_with fail
              rw [roundsIn_succ]
              gi_wp2_with fail
              obtain ⟨⟨⟨bm, pm, cm, hMm, hpm⟩, ⟨bn, pn, cn, hMn, hpn⟩, hown9, hwb9⟩, -, -, hbR, hbwU, ⟨⟨pc9, cc9, lc, hMc, hpc, hlc, hkc⟩, haf⟩⟩ := HSTD.out wB1 HX2.out
              have hkey : kHas l 70000 = false := no_key (fun x hx => (HKV.out.2.2 x hx).1)
              have hkey2 : kHas lc 70000 = false := no_key hkc
              have hl100 : l.length ≤ 100 := HKV.out.2.1
              obtain ⟨⟨hbc1, hbc2⟩, h34', h3w', hbd', hZ2⟩ := HBC.out
              have hdz0 := HD0.out
              have hdz1 := HD1.out
              have hk1 : wB1.heap[D1]? = some (.deferred (some [])) := (HBK1.out.block _ (Array.getElem?_eq_some_iff.1 HK1.out).1).trans HK1.out
              have hk0a : wB0.heap[D0]? = some (.deferred (some [])) := (HBK0.out.block _ (Array.getElem?_eq_some_iff.1 HK0.out).1).trans HK0.out
              have hk0b : U1.heap[D0]? = some (.deferred (some [])) := (HUU1.out.block _ (Array.getElem?_eq_some_iff.1 hk0a).1).trans hk0a
              have hk0 : wB1.heap[D0]? = some (.deferred (some [])) := (HBK1.out.block _ (Array.getElem?_eq_some_iff.1 hk0b).1).trans hk0b
              have hne : D1 ≠ D0 := by
                have h9 := (Array.getElem?_eq_some_iff.1 hk0a).1
                have h8 := HDX.out
                omega
              have HSET := Lib.hid (setC hMm (by omega) 70000 1 (by have := hMm.low; have := hMm.lt; omega))
              have HP := Lib.hid (And.intro hMc (And.intro hMn (And.intro hbR (And.intro hbwU (And.intro hk0 hk1)))))
              have HPM := Lib.hid (And.intro hpm (And.intro hpn hpc))
              clear hMm hown9 hwb9 hbR hbwU hMc hMn haf hk0 hk1 hk0a hk0b hkc hpm hpn hpc HKV HAG HSTD HUU0 HUU1 HBK0 HBK1 HK0 HK1 HZU0 HZU1 HX0 HX1 HX2 HUX0 HUX1 HG0 HG1
              refine ⟨trivial, (callsIn_wide.2 HSET.out).mono ?_⟩
              rintro e W9 ⟨rfl, p9, c9, hM9, hT9, hH9⟩
              obtain ⟨hMc, hMn, hbR, hbwU, hk0, hk1⟩ := HP.out
              obtain ⟨hpm, hpn, hpc⟩ := HPM.out
              have hc9 : MapC W9 W2.heap.size bc pc9 cc9 lc := hMc.same hT9.size (hT9.block _ hMc.lt (by omega) (fun a ha => by have := hpm a ha; omega)) (fun a ha => hT9.block _ (hMc.own ha).2 (by have := (hMc.own ha).1; omega) (fun a' ha' => by have := hpm a' ha'; have := (hMc.own ha).1; omega))
              have hd9 : MapC W9 bn bd pn cn l := hMn.same hT9.size (hT9.block _ hMn.lt (by omega) (fun a ha => by have := hpm a ha; omega)) (fun a ha => hT9.block _ (hMn.own ha).2 (by have := hpn a ha; omega) (fun a' ha' => by have := hpm a' ha'; have := hpn a ha; omega))
              have hR9 : Boxed W9 w.heap.size 4 (.bool false) := (hT9.block _ hbR.lt (by omega) (fun a ha => by have := hpm a ha; omega)).trans hbR
              have hw9 : Below w.heap.size w W9 := hbwU.trans (hT9.below (by omega) (fun a ha => by have := hpm a ha; omega) hbwU.size)
              have hk09 : W9.heap[D0]? = some (.deferred (some [])) := (hT9.block _ (Array.getElem?_eq_some_iff.1 hk0).1 (by omega) (fun a ha => by have := hpm a ha; omega)).trans hk0
              have hk19 : W9.heap[D1]? = some (.deferred (some [])) := (hT9.block _ (Array.getElem?_eq_some_iff.1 hk1).1 (by omega) (fun a ha => by have := hpm a ha; omega)).trans hk1
              have HGC := Lib.hid (getC hc9 (by omega) 70000)
              have HE9 := Lib.hid (And.intro hd9 (And.intro hR9 (And.intro hw9 (And.intro hk09 hk19))))
              clear hMc hMn hbR hbwU hk0 hk1 hpm hpn hpc hc9 hd9 hR9 hw9 hk09 hk19 hM9 hT9 hH9 HP HPM HSET
              generalize (kGet l 70000).getD 0 = z9 at *
              rw [hkey]
              gi_wp2_with fail
              refine ⟨trivial, (callsIn_wide.2 HGC.out).mono ?_⟩
              rintro e W10 ⟨rfl, hb10⟩
              have HGD := Lib.hid (getC (HE9.out.1.below hb10) (by omega) 70000)
              have HB10 := Lib.hid hb10
              clear hb10 HGC
              rw [hkey2]
              generalize (kGet lc 70000).getD 0 = z10 at *
              gi_wp2_with fail
              refine ⟨trivial, (callsIn_wide.2 HGD.out).mono ?_⟩
              rintro e W11 ⟨rfl, hb11⟩
              have HB11 := Lib.hid (HB10.out.trans (hb11.mono HB10.out.size))
              clear hb11 HGD HB10
              rw [hkey]
              generalize (kGet l 70000).getD 0 = z11 at *
              gi_wp2_with fail
              refine ⟨trivial, (callsIn_wide.2 (works3_any W11)).mono ?_⟩
              rintro e V3 ⟨rfl, hb3⟩
              have hb9 := HB11.out.trans (hb3.mono HB11.out.size)
              obtain ⟨-, hR9, hw9, hk09, hk19⟩ := HE9.out
              have hr3 : Boxed V3 w.heap.size 4 (.bool false) := (hb9.block _ hR9.lt).trans hR9
              have hd1 : V3.heap[D0]? = some (.deferred (some [])) := (hb9.block _ (Array.getElem?_eq_some_iff.1 hk09).1).trans hk09
              have hd2 : V3.heap[D1]? = some (.deferred (some [])) := (hb9.block _ (Array.getElem?_eq_some_iff.1 hk19).1).trans hk19
              have hbw : Below w.heap.size w V3 := hw9.trans (hb9.mono hw9.size)
              have cr := hr3.cell
              have fr := hr3.frozen
              have HE := Lib.hid (And.intro hr3 (And.intro hd1 (And.intro hd2 hbw)))
              clear hr3 hd1 hd2 hbw hb3 hb9 hR9 hw9 hk09 hk19
              gi_wp2_with fail
              have b1 := HE.out.1.set (.bool true)
              have e2 : (V3.setCell ⟨w.heap.size, 0, none⟩ (.bool true)).heap[D1]? = some (.deferred (some [])) := (Below.heap_setCell _ _ _ _ (by show D1 ≠ w.heap.size; omega)).trans HE.out.2.2.1
              have e1 : ((V3.setCell ⟨w.heap.size, 0, none⟩ (.bool true)).putObj D1 (.deferred none)).heap[D0]? = some (.deferred (some [])) := (World.putObj_heap_other (by omega)).trans ((Below.heap_setCell _ _ _ _ (by show D0 ≠ w.heap.size; omega)).trans HE.out.2.1)
              refine ⟨by simp, .inl ⟨_, _, rfl, run_takeDeferred e2, ?_⟩⟩
              refine ⟨by simp, .inl ⟨_, _, rfl, run_takeDeferred e1, ?_⟩⟩
              have b2 := (b1.kept (grownBy_putObj' _ D1 (.deferred none)) (by simp; omega)).kept (grownBy_putObj' _ D0 (.deferred none)) (by simp; omega)
              have hc5 := b2.cell
              refine ⟨.bool true, ?_, rfl, ?_⟩
              · simp [results, Try.f6, go_sem, hc5]
              · have g0' := HE.out.2.2.2.setCell (p := ⟨w.heap.size, 0, none⟩) (Nat.le_refl _) (.bool true)
                have g1' := g0'.grown (grownBy_putObj' _ D1 (.deferred none)) g0'.size (fun k e => by cases e; omega)
                exact g1'.grown (grownBy_putObj' _ D0 (.deferred none)) g1'.size (fun k e => by cases e; omega)
end Go.Proofs.Ytpnhklehpilopaa
