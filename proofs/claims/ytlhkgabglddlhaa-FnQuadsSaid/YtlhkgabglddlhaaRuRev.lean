/- Signs with the elements of a set reversed: impl's map of them. -/
import Derived.Test.YtlhkgabglddlhaaSgMapOf
import Derived.Test.YtlhkgabglddlhaaRuMath
import Derived.Maps.Ext
import Derived.Maps.RangeWalk
import Derived.BigQuiet
namespace Go.Proofs.Ytlhkgabglddlhaa.Sg
open Go.RowKit Pt Go.Maps
set_option maxRecDepth 100000 in
/-- What reads as a key of three elements is three elements. -/
theorem inv_three {key : Value} {l : Lit} (h : keyOf Try.prog 99 key = some l) : ∃ x : Int × Int × Int, key = .agg #[.int .i64 x.1, .int .i64 x.2.1, .int .i64 x.2.2] ∧ ((Lit.int .i64 x.1).wf = true ∧ (Lit.int .i64 x.2.1).wf = true ∧ (Lit.int .i64 x.2.2).wf = true) := by
  have u1 : Try.prog.underlying 99 = some (.array 3 3) := by kernel_rfl
  have u2 : Try.prog.underlying 3 = some (.int .i64) := by kernel_rfl
  have z1 : Try.prog.cellsOf 99 = 3 := by kernel_rfl
  have z2 : Try.prog.cellsOf 3 = 1 := by kernel_rfl
  obtain ⟨xs, L, rfl, hk, -⟩ := keyOf_top (by rw [u1]) h
  obtain ⟨d, hd⟩ : ∃ d, Try.prog.types.size + 1 = d + 2 := ⟨Try.prog.types.size - 1, by have : 0 < Try.prog.types.size := of_decide_eq_true (by kernel_rfl); omega⟩
  rw [hd] at hk
  unfold Program.keyLits at hk
  simp only [u1, z1, z2] at hk
  have inv : ∀ (cs : List Value) (l : List Lit), Try.prog.keyLits (d + 1) 3 cs = some l → ∃ x : Int, cs = [.int .i64 x] ∧ (Lit.int .i64 x).wf = true := fun cs l hl => by
    obtain ⟨n, rfl, -⟩ := keyLits_int' u2 hl
    refine ⟨n, rfl, ?_⟩
    unfold Program.keyLits at hl
    simp only [u2] at hl
    by_cases hw : (Lit.int .i64 n).wf = true
    · exact hw
    · simp [hw] at hl
  by_cases hlen : xs.toList.length = 3
  · rw [if_pos hlen] at hk
    obtain ⟨xs⟩ := xs
    simp only at hlen hk
    match xs, hlen, hk with
    | [a, b, c], _, hk =>
      rw [show List.range 3 = [0, 1, 2] by decide] at hk
      simp only [Option.map_eq_some_iff] at hk
      obtain ⟨ax, hk, -⟩ := hk
      rw [List.mapM_cons, List.mapM_cons, List.mapM_cons] at hk
      simp only [bind, Option.bind_eq_some_iff, Nat.mul_one, List.drop_zero, List.drop_succ_cons, List.take_succ_cons, List.take_zero] at hk
      obtain ⟨l0, h0, as1, ⟨l1, h1, as2, ⟨l2, h2, -⟩, -⟩, -⟩ := hk
      obtain ⟨x, hx, wx⟩ := inv _ _ h0
      obtain ⟨y, hy, wy⟩ := inv _ _ h1
      obtain ⟨z, hz, wz⟩ := inv _ _ h2
      obtain rfl := (List.cons.inj hx).1
      obtain rfl := (List.cons.inj hy).1
      obtain rfl := (List.cons.inj hz).1
      exact ⟨(x, y, z), rfl, wx, wy, wz⟩
  · rw [if_neg hlen] at hk; cases hk
/-- An odd number of three bits. -/
theorem bits_xor (a b : Nat) (ha : a < 1024) (hb : b < 1024) : bits BinOp.xor IntKind.i64 (a : Int) (b : Int) = ((a ^^^ b : Nat) : Int) ∧ a ^^^ b < 1024 := by
  have hl : a ^^^ b < 1024 := Nat.xor_lt_two_pow (n := 10) ha hb
  refine ⟨?_, hl⟩
  show IntKind.i64.wrap ((BitVec.ofInt 64 a ^^^ BitVec.ofInt 64 b).toNat : Int) = _
  rw [BitVec.toNat_xor, BitVec.ofInt_natCast, BitVec.ofInt_natCast, BitVec.toNat_ofNat, BitVec.toNat_ofNat, Nat.mod_eq_of_lt (by omega), Nat.mod_eq_of_lt (by omega), IntKind.wrap_i64]
  omega
theorem bits_and1 (a : Nat) (ha : a < 1048576) : bits BinOp.and IntKind.i64 (a : Int) 1 = ((a % 2 : Nat) : Int) := by
  show IntKind.i64.wrap ((BitVec.ofInt 64 a &&& BitVec.ofInt 64 1).toNat : Int) = _
  have h1 : (BitVec.ofInt 64 1).toNat = 1 := by decide
  rw [BitVec.toNat_and, BitVec.ofInt_natCast, BitVec.toNat_ofNat, Nat.mod_eq_of_lt (by omega), h1, Nat.and_one_is_mod, IntKind.wrap_i64]
  omega
theorem xor_mod2 (a b : Nat) : (a ^^^ b) % 2 = (a + b) % 2 := by
  have h := Nat.testBit_xor (x := a) (y := b) (i := 0)
  rw [Nat.testBit_zero, Nat.testBit_zero, Nat.testBit_zero] at h
  have h2 := Nat.mod_two_eq_zero_or_one (a ^^^ b)
  generalize a ^^^ b = c at h h2 ⊢
  rcases Nat.mod_two_eq_zero_or_one a with ha | ha <;> rcases Nat.mod_two_eq_zero_or_one b with hb | hb <;> rcases h2 with h2 | h2 <;> rw [ha, hb, h2] at h <;> first | omega | exact absurd h (by decide)
theorem par_xor (a b c : Nat) (ha : a < 1024) (hb : b < 1024) (hc : c < 1024) : (bits BinOp.and IntKind.i64 (bits BinOp.xor IntKind.i64 (bits BinOp.xor IntKind.i64 (a : Int) (b : Int)) (c : Int)) 1 == 1) = ((a + b + c) % 2 == 1) := by
  obtain ⟨e1, l1⟩ := bits_xor a b ha hb
  obtain ⟨e2, l2⟩ := bits_xor (a ^^^ b) c l1 hc
  rw [e1, e2, bits_and1 _ (by omega)]
  have : (a ^^^ b ^^^ c) % 2 = (a + b + c) % 2 := by
    rw [xor_mod2, Nat.add_mod, xor_mod2, ← Nat.add_mod]
  rw [this]
  rcases Nat.mod_two_eq_zero_or_one (a + b + c) with h | h <;> rw [h] <;> rfl
theorem par_sum (a b c : Nat) (ha : a < 1024) (hb : b < 1024) (hc : c < 1024) : (bits BinOp.and IntKind.i64 ((a : Int) + (b : Int) + (c : Int)) 1 == 1) = ((a + b + c) % 2 == 1) := by
  have e : ((a : Int) + (b : Int) + (c : Int)) = ((a + b + c : Nat) : Int) := by omega
  rw [e, bits_and1 _ (by omega)]
  rcases Nat.mod_two_eq_zero_or_one (a + b + c) with h | h <;> rw [h] <;> rfl
theorem shr_div (set i : Nat) : ((set >>> i : Nat) : Int) = (set : Int) / 2 ^ i := by
  rw [Nat.shiftRight_eq_div_pow]
  push_cast
  rfl
/-- A map's entries, some with the other sign, as far as they have come. -/
def RevTo (set : Nat) (D Dout : DataW Unit) (left : Lit → Bool) : Prop :=
  (∀ x y z : Int, (0 ≤ x ∧ x < 8) ∧ (0 ≤ y ∧ y < 8) ∧ (0 ≤ z ∧ z < 8) → ∀ c, (∀ zd, D.atKey (kl x y z) zd = .lit (.int .i64 c)) → left (kl x y z) = false → Dout.atKey (kl x y z) (.lit (.int .i64 0)) = .lit (.int .i64 (if odd3 set x.toNat y.toNat z.toNat then -c else c))) ∧
  (∀ x y z : Int, -9223372036854775808 ≤ x ∧ x ≤ 9223372036854775807 → -9223372036854775808 ≤ y ∧ y ≤ 9223372036854775807 → -9223372036854775808 ≤ z ∧ z ≤ 9223372036854775807 → has D (kl x y z) = false → Dout.atKey (kl x y z) (.lit (.int .i64 0)) = .lit (.int .i64 0))
theorem revTo_start (set : Nat) (D : DataW Unit) : RevTo set D (.map []) (has D) :=
  ⟨fun x y z _ c hc hl => absurd ((has_true_of_atKey hc).symm.trans hl) (by simp), fun x y z _ _ _ _ => rfl⟩
theorem revTo_step {set : Nat} {D Dout : DataW Unit} {left : Lit → Bool} {x y z c : Int} (h : RevTo set D Dout left) (hm : IsMap Dout) (hx : (0 ≤ x ∧ x < 8) ∧ (0 ≤ y ∧ y < 8) ∧ (0 ≤ z ∧ z < 8)) (hat : ∀ zd, D.atKey (kl x y z) zd = .lit (.int .i64 c)) :
    RevTo set D (Dout.put (kl x y z) (.lit (.int .i64 (if odd3 set x.toNat y.toNat z.toNat then -c else c)))) (fun k => left k && !k.sameKey (kl x y z)) := by
  refine ⟨fun x' y' z' hx' c' hc' hl => ?_, fun x' y' z' h1 h2 h3 hn => ?_⟩
  · by_cases e : kl x' y' z' = kl x y z
    · obtain ⟨rfl, rfl, rfl⟩ := kl_inj (by omega) (by omega) (by omega) (by omega) (by omega) (by omega) e
      have hcc := (hc' .nil).symm.trans (hat .nil)
      injection hcc with hcc
      injection hcc with _ hcc
      subst hcc
      rw [atKey_put_same hm (isKey_kl _ _ _)]
    · rw [atKey_put_other e]
      refine h.1 x' y' z' hx' c' hc' ?_
      simp only [Bool.and_eq_false_iff] at hl
      rcases hl with hl | hl
      · exact hl
      · exact absurd (WideAt.sameKey_eq (by simpa using hl)) e
  · by_cases e : kl x' y' z' = kl x y z
    · rw [e, has_true_of_atKey hat] at hn; cases hn
    · rw [atKey_put_other e]; exact h.2 x' y' z' h1 h2 h3 hn
theorem kl_has {D : DataW Unit} (k : Lit) : has D k = false ∨ ∃ d, ∀ zd, D.atKey k zd = d := by
  cases hh : has D k
  · exact .inl rfl
  · refine .inr ?_
    cases D <;> try (cases hh; done)
    rename_i es
    obtain ⟨p, hp, hpk⟩ := List.any_eq_true.1 hh
    have hs : (es.find? (fun p => p.1.sameKey k)).isSome = true := List.find?_isSome.2 ⟨p, hp, hpk⟩
    obtain ⟨q, hq⟩ := Option.isSome_iff_exists.1 hs
    refine ⟨q.2, fun zd => ?_⟩
    simp only [DataW.atKey, hq]
/-- At the end the map has the reversed signs. -/
theorem revTo_end {set : Nat} {D Dout : DataW Unit} {left : Lit → Bool} {f : Int → Int → Int → Int} (h : RevTo set D Dout left) (hl : ∀ k, left k = false)
    (hr : ∀ x y z : Int, -9223372036854775808 ≤ x ∧ x ≤ 9223372036854775807 → -9223372036854775808 ≤ y ∧ y ≤ 9223372036854775807 → -9223372036854775808 ≤ z ∧ z ≤ 9223372036854775807 → D.atKey (kl x y z) (.lit (.int .i64 0)) = .lit (.int .i64 (f x y z))) (hk : KeysIn D) :
    ∀ x y z : Int, -9223372036854775808 ≤ x ∧ x ≤ 9223372036854775807 → -9223372036854775808 ≤ y ∧ y ≤ 9223372036854775807 → -9223372036854775808 ≤ z ∧ z ≤ 9223372036854775807 → Dout.atKey (kl x y z) (.lit (.int .i64 0)) = .lit (.int .i64 (revF set f x y z)) := fun x y z hx hy hz => by
  rcases kl_has (D := D) (kl x y z) with hn | ⟨d, hd⟩
  · rw [h.2 x y z hx hy hz hn]
    have := hr x y z hx hy hz
    rw [atKey_of_not_has hn] at this
    injection this with this
    injection this with _ this
    unfold revF
    rw [← this]
    simp
  · have h0 := (hd _).symm.trans (hr x y z hx hy hz)
    subst h0
    by_cases hin : (0 ≤ x ∧ x < 8) ∧ (0 ≤ y ∧ y < 8) ∧ 0 ≤ z ∧ z < 8
    · rw [h.1 x y z hin _ hd (hl _)]; rfl
    · have h1 := hk x y z hx hy hz hin .nil
      rw [hd] at h1
      cases h1
theorem key_inv {x : Int × Int × Int} {l : Lit} (h : keyOf Try.prog 99 (.agg #[.int .i64 x.1, .int .i64 x.2.1, .int .i64 x.2.2]) = some l) :
    ((-9223372036854775808 ≤ x.1 ∧ x.1 ≤ 9223372036854775807) ∧ (-9223372036854775808 ≤ x.2.1 ∧ x.2.1 ≤ 9223372036854775807) ∧ (-9223372036854775808 ≤ x.2.2 ∧ x.2.2 ≤ 9223372036854775807)) ∧ l = kl x.1 x.2.1 x.2.2 := by
  obtain ⟨y, hy, h1, h2, h3⟩ := inv_three h
  simp only [Value.agg.injEq, Array.mk.injEq, List.cons.injEq, Value.int.injEq, true_and, and_true] at hy
  obtain ⟨e1, e2, e3⟩ := hy
  rw [← e1] at h1; rw [← e2] at h2; rw [← e3] at h3
  have b1 := bounds_i64 h1
  have b2 := bounds_i64 h2
  have b3 := bounds_i64 h3
  refine ⟨⟨b1, b2, b3⟩, ?_⟩
  rw [key_three b1 b2 b3] at h
  exact (Option.some.inj h).symm
theorem odd3_le (set : Nat) (hs : set < 1024) (i : Nat) : set >>> i < 1024 := by
  rw [Nat.shiftRight_eq_div_pow]
  exact Nat.lt_of_le_of_lt (Nat.div_le_self _ _) hs
set_option maxHeartbeats 1600000 in
set_option maxRecDepth 100000 in
theorem reversed_any (b set : Nat) (f : Int → Int → Int → Int) (hset : set < 1024) (w : World) (hm : MapK w b f) :
    Calls Try.prog 67 #[.map (some b), .int .i64 set] w fun e w' => ∃ b', e = .returned (.map (some b')) ∧ w.heap.size ≤ b' ∧ MapIs w' b' (revF set f) ∧ Below w.heap.size w w' := by
  obtain ⟨⟨m, D, hm35, hown, hr, hk⟩, hbd⟩ := hm
  have hmm := @run_makeMap Try.prog
  have hbl := World.ownsMap.lt hown
  have hsl : Maps.size D ≤ 35 := Nat.le_trans hown.size_le hm35
  have e1 : (w.alloc (.map #[] 0)).heap.size = w.heap.size + 1 := by simp
  have HR := Lib.hid hr
  have HK := Lib.hid hk
  have HBD := Lib.hid hbd
  clear hr hk hbd
  go_enter Try.func67, Try.ntmps67
  go_wp2_with (first
    | (at_range; refine wpList_range_own _ rfl _ 63 rfl 99 3 law Try.underlying63 _ b m _ rfl (hown.alloc _) ?_; intro w0 hrg0 hg0 hs0)
    | go_in)
  go_frame
  rw [e1] at hrg0 hs0 ⊢
  have HO0 : Hid (w0.ownsMap Try.prog 99 (plainElem (H := Unit) Try.prog 3) w.heap.size 0 (.map [])) := Lib.hid ((World.ownsMap_made _ _ _ _).kept hg0 (by simp))
  have HB0 : Hid (Below w.heap.size w w0) := Lib.hid (((Below.refl _ _).alloc (Nat.le_refl _) _).grown hg0 (by simp) (fun j hj => by cases hj))
  have HA0 := Lib.hid (revTo_start set D)
  have HG0 := Lib.hid hrg0
  clear hrg0 hg0
  go_loopw [7] (fun _ wr => ∃ (left : Lit → Bool) (cnt : Nat) (Dout : DataW Unit), Hid (wr.ranges Try.prog 99 (plainElem Try.prog 3) b (w.heap.size + 1) m D left cnt) ∧ cnt ≤ Maps.size D ∧
      Hid (wr.ownsMap Try.prog 99 (plainElem Try.prog 3) w.heap.size (Maps.size D - cnt) Dout) ∧ Hid (RevTo set D Dout left) ∧ Hid (Below w.heap.size w wr))
    (fun _ wr => wr.rangeLeft b (w.heap.size + 1))
  case atStart => exact ⟨_, _, .map [], HG0, Nat.le_refl _, Lib.hid (HO0.out.mono (Nat.zero_le _)), HA0, HB0⟩
  case round =>
    obtain ⟨left, cnt, Dout, HG, hcs, HOUT, HA, HB⟩ := hrel
    go_wp2_with (first
      | (at_next; refine wpList_next_ranges (α := Int × Int × Int) (β := Int) _ rfl _ rfl 99 law (plainElem (H := Unit) Try.prog 3) (fun x => .agg #[.int .i64 x.1, .int .i64 x.2.1, .int .i64 x.2.2]) (Value.int .i64) (fun key kl hkey => by obtain ⟨x, rfl, _⟩ := inv_three hkey; exact ⟨x, rfl⟩) (fun v y hv => by obtain ⟨c, rfl, _⟩ := plainElem_int_inv Try.underlying3 hv; exact ⟨c, rfl⟩) b (w.heap.size + 1) m D left cnt rfl HG.out ?_ ?_)
      | go_in)
    · intro hc0 hl0
      go_wp2
      go_ret
      have HE := revTo_end HA.out hl0 HR.out HK.out
      exact ⟨w.heap.size, rfl, Nat.le_refl _, ⟨⟨_, _, HOUT.out, HE⟩, fun x y z => by have := HBD.out x y z; unfold revF; split <;> omega⟩, HB.out⟩
    · intro x1 x2 x3 c l y1 y2 w1 cnt1 hkey hlx hRv hat hrg1 hlt hg1 hs1 hen
      obtain ⟨hwx, rfl⟩ := key_inv (x := (x1, x2, x3)) hkey
      simp only at hwx hat hkey hlx hrg1 hen ⊢
      obtain ⟨c', ec, ey, hwc⟩ := plainElem_int_inv Try.underlying3 hRv
      obtain rfl : c = c' := by injection ec
      obtain ⟨rfl, rfl⟩ := Prod.mk.inj ey
      have hin : (0 ≤ x1 ∧ x1 < 8) ∧ (0 ≤ x2 ∧ x2 < 8) ∧ 0 ≤ x3 ∧ x3 < 8 := by
        refine Classical.byContradiction fun hno => ?_
        have h1 := HK.out x1 x2 x3 hwx.1 hwx.2.1 hwx.2.2 hno .nil
        rw [hat] at h1
        cases h1
      have hcb : -1 ≤ c ∧ c ≤ 1 := by
        have h1 := (hat (.lit (.int .i64 0))).symm.trans (HR.out x1 x2 x3 hwx.1 hwx.2.1 hwx.2.2)
        injection h1 with h1
        injection h1 with _ h1
        rw [h1]
        exact HBD.out _ _ _
      obtain ⟨i, rfl⟩ : ∃ i : Nat, x1 = i := ⟨x1.toNat, by omega⟩
      obtain ⟨j, rfl⟩ : ∃ j : Nat, x2 = j := ⟨x2.toNat, by omega⟩
      obtain ⟨k, rfl⟩ : ∃ k : Nat, x3 = k := ⟨x3.toNat, by omega⟩
      have HSTEP := Lib.hid (revTo_step HA.out HOUT.out.isMap hin hat)
      have hpx := par_xor (set >>> i) (set >>> j) (set >>> k) (odd3_le set hset i) (odd3_le set hset j) (odd3_le set hset k)
      have ho : odd3 set i j k = (((set >>> i) + (set >>> j) + (set >>> k)) % 2 == 1) := rfl
      rw [← ho] at hpx
      rw [shr_div, shr_div, shr_div] at hpx
      have HKEY := Lib.hid hkey
      have HG1 := Lib.hid hrg1
      have hwr := HB.out.size
      have hrl := HG.out.lt
      have HOUT1 := Lib.hid (HOUT.out.kept hg1 (by simp))
      have HB1 := Lib.hid (HB.out.grown hg1 hwr (fun q hq => by cases hq; omega))
      have hle1 := HB1.out.size
      obtain ⟨z0, z1, z2⟩ := box3_made w1 i j k 99
      have HOUT2 : Hid (∀ q, ((w1.alloc (.cells #[.int .i64 i, .int .i64 j, .int .i64 k] 99)).drewN q).ownsMap Try.prog 99 (plainElem (H := Unit) Try.prog 3) w.heap.size (Maps.size D - cnt) Dout) := Lib.hid (fun q => HOUT1.out.alloc _)
      have HGD : Hid (∀ q, ((w1.alloc (.cells #[.int .i64 i, .int .i64 j, .int .i64 k] 99)).drewN q).ranges Try.prog 99 (plainElem Try.prog 3) b (w.heap.size + 1) m D (fun q => left q && !q.sameKey (kl i j k)) cnt1) := Lib.hid (fun q => HG1.out.alloc _)
      have hnm : Maps.size D - cnt < maxLen := by simp only [maxLen]; omega
      clear ho hat hkey hRv hrg1 hlx
      cases hod : odd3 set i j k
      · rw [hod] at hpx
        have HST : Hid (RevTo set D (Dout.put (kl i j k) (.lit (.int .i64 c))) (fun q => left q && !q.sameKey (kl i j k))) := Lib.hid (by
          have := HSTEP.out
          simpa only [Int.toNat_natCast, hod, if_true, if_false, Bool.false_eq_true] using this)
        clear HSTEP
        go_wp2
        go_quiet (fail)
        have hval : plainElem (H := Unit) Try.prog 3 (.int .i64 (c)) = some (.lit (.int .i64 (c)), []) := plainElem_int Try.underlying3 (WalkArith.wf_i64 (by omega))
        go_wp2_with (at_mapUpdate; refine wpList_mapUpdate_own _ rfl _ _ _ 63 rfl 99 3 law Try.underlying63 _ w.heap.size _ _ rfl (HOUT2.out _) hnm _ _ _ rfl rfl HKEY.out _ [] hval ?_)
        intro w2 hout2 hg2
        have HG2 := Lib.hid ((HGD.out _).kept hg2 (fun e => by have := Option.some.inj e; omega) (fun e => by have := Option.some.inj e; omega))
        have HO2 := Lib.hid (hout2.mono (show Maps.size D - cnt + 1 ≤ Maps.size D - cnt1 by omega))
        have HB2 := Lib.hid ((drewN_below (HB1.out.alloc hle1 (.cells #[.int .i64 i, .int .i64 j, .int .i64 k] 99)) _).grown hg2 (by simp; omega) (fun q hq => by cases hq; exact Nat.le_refl _))
        have hms : w2.rangeLeft b (w.heap.size + 1) = cnt1 := HG2.out.left_eq
        have hmo : wr.rangeLeft b (w.heap.size + 1) = cnt := HG.out.left_eq
        clear hg2 hout2 hg1
        go_wp2
        exact ⟨⟨_, cnt1, _, HG2, by omega, HO2, HST, HB2⟩, by omega⟩
      · rw [hod] at hpx
        have HST : Hid (RevTo set D (Dout.put (kl i j k) (.lit (.int .i64 (-c)))) (fun q => left q && !q.sameKey (kl i j k))) := Lib.hid (by
          have := HSTEP.out
          simpa only [Int.toNat_natCast, hod, if_true, if_false, Bool.false_eq_true] using this)
        clear HSTEP
        go_wp2
        go_quiet (fail)
        have hval : plainElem (H := Unit) Try.prog 3 (.int .i64 (-c)) = some (.lit (.int .i64 (-c)), []) := plainElem_int Try.underlying3 (WalkArith.wf_i64 (by omega))
        go_wp2_with (at_mapUpdate; refine wpList_mapUpdate_own _ rfl _ _ _ 63 rfl 99 3 law Try.underlying63 _ w.heap.size _ _ rfl (HOUT2.out _) hnm _ _ _ rfl rfl HKEY.out _ [] hval ?_)
        intro w2 hout2 hg2
        have HG2 := Lib.hid ((HGD.out _).kept hg2 (fun e => by have := Option.some.inj e; omega) (fun e => by have := Option.some.inj e; omega))
        have HO2 := Lib.hid (hout2.mono (show Maps.size D - cnt + 1 ≤ Maps.size D - cnt1 by omega))
        have HB2 := Lib.hid ((drewN_below (HB1.out.alloc hle1 (.cells #[.int .i64 i, .int .i64 j, .int .i64 k] 99)) _).grown hg2 (by simp; omega) (fun q hq => by cases hq; exact Nat.le_refl _))
        have hms : w2.rangeLeft b (w.heap.size + 1) = cnt1 := HG2.out.left_eq
        have hmo : wr.rangeLeft b (w.heap.size + 1) = cnt := HG.out.left_eq
        clear hg2 hout2 hg1
        go_wp2
        exact ⟨⟨_, cnt1, _, HG2, by omega, HO2, HST, HB2⟩, by omega⟩
end Go.Proofs.Ytlhkgabglddlhaa.Sg
