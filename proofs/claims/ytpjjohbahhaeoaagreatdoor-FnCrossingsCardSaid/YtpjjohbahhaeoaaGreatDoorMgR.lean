/- Several texts in one: RuRev, RuRevSpec, RuBy, RuElem, RuElemImpl, RuSets. -/
import Derived.Test.YtpjjohbahhaeoaaGreatDoorMgS
import Derived.Maps.Ext
import Derived.Maps.RangeWalk
import Derived.BigQuiet
import Derived.Test.YtpjjohbahhaeoaaGreatDoorMgQ
import Derived.StillTailTactics
import Derived.Test.YtpjjohbahhaeoaaGreatDoorMgC
/- Signs with the elements of a set reversed: impl's map of them. -/
namespace Go.Proofs.YtpjjohbahhaeoaaGreatDoor.Sg
open Go.RowKit Pt Go.Maps
set_option maxRecDepth 100000 in
/-- What reads as a key of three elements is three elements. -/
theorem inv_three {key : Value} {l : Lit} (h : keyOf Tryz.prog 92 key = some l) : ∃ x : Int × Int × Int, key = .agg #[.int .i64 x.1, .int .i64 x.2.1, .int .i64 x.2.2] ∧ ((Lit.int .i64 x.1).wf = true ∧ (Lit.int .i64 x.2.1).wf = true ∧ (Lit.int .i64 x.2.2).wf = true) := by
  have u1 : Tryz.prog.underlying 92 = some (.array 3 3) := by kernel_rfl
  have u2 : Tryz.prog.underlying 3 = some (.int .i64) := by kernel_rfl
  have z1 : Tryz.prog.cellsOf 92 = 3 := by kernel_rfl
  have z2 : Tryz.prog.cellsOf 3 = 1 := by kernel_rfl
  obtain ⟨xs, L, rfl, hk, -⟩ := keyOf_top (by rw [u1]) h
  obtain ⟨d, hd⟩ : ∃ d, Tryz.prog.types.size + 1 = d + 2 := ⟨Tryz.prog.types.size - 1, by have : 0 < Tryz.prog.types.size := of_decide_eq_true (by kernel_rfl); omega⟩
  rw [hd] at hk
  unfold Program.keyLits at hk
  simp only [u1, z1, z2] at hk
  have inv : ∀ (cs : List Value) (l : List Lit), Tryz.prog.keyLits (d + 1) 3 cs = some l → ∃ x : Int, cs = [.int .i64 x] ∧ (Lit.int .i64 x).wf = true := fun cs l hl => by
    obtain ⟨n, rfl, -⟩ := keyLits_int' u2 hl
    refine ⟨n, rfl, ?_⟩
    unfold Program.keyLits at hl
    simp only [u2] at hl
    by_cases hw : (Lit.int .i64 n).wf = true
    · exact hw
    · simp [hw] at hl
  by_cases hlen : xs.toList.length = 3
  · rw [if_pos hlen] at hk
    obtain ⟨xs⟩ := xs
    simp only at hlen hk
    match xs, hlen, hk with
    | [a, b, c], _, hk =>
      rw [show List.range 3 = [0, 1, 2] by decide] at hk
      simp only [Option.map_eq_some_iff] at hk
      obtain ⟨ax, hk, -⟩ := hk
      rw [List.mapM_cons, List.mapM_cons, List.mapM_cons] at hk
      simp only [bind, Option.bind_eq_some_iff, Nat.mul_one, List.drop_zero, List.drop_succ_cons, List.take_succ_cons, List.take_zero] at hk
      obtain ⟨l0, h0, as1, ⟨l1, h1, as2, ⟨l2, h2, -⟩, -⟩, -⟩ := hk
      obtain ⟨x, hx, wx⟩ := inv _ _ h0
      obtain ⟨y, hy, wy⟩ := inv _ _ h1
      obtain ⟨z, hz, wz⟩ := inv _ _ h2
      obtain rfl := (List.cons.inj hx).1
      obtain rfl := (List.cons.inj hy).1
      obtain rfl := (List.cons.inj hz).1
      exact ⟨(x, y, z), rfl, wx, wy, wz⟩
  · rw [if_neg hlen] at hk; cases hk
/-- An odd number of three bits. -/
theorem bits_xor (a b : Nat) (ha : a < 1024) (hb : b < 1024) : bits BinOp.xor IntKind.i64 (a : Int) (b : Int) = ((a ^^^ b : Nat) : Int) ∧ a ^^^ b < 1024 := by
  have hl : a ^^^ b < 1024 := Nat.xor_lt_two_pow (n := 10) ha hb
  refine ⟨?_, hl⟩
  show IntKind.i64.wrap ((BitVec.ofInt 64 a ^^^ BitVec.ofInt 64 b).toNat : Int) = _
  rw [BitVec.toNat_xor, BitVec.ofInt_natCast, BitVec.ofInt_natCast, BitVec.toNat_ofNat, BitVec.toNat_ofNat, Nat.mod_eq_of_lt (by omega), Nat.mod_eq_of_lt (by omega), IntKind.wrap_i64]
  omega
theorem bits_and1 (a : Nat) (ha : a < 1048576) : bits BinOp.and IntKind.i64 (a : Int) 1 = ((a % 2 : Nat) : Int) := by
  show IntKind.i64.wrap ((BitVec.ofInt 64 a &&& BitVec.ofInt 64 1).toNat : Int) = _
  have h1 : (BitVec.ofInt 64 1).toNat = 1 := by decide
  rw [BitVec.toNat_and, BitVec.ofInt_natCast, BitVec.toNat_ofNat, Nat.mod_eq_of_lt (by omega), h1, Nat.and_one_is_mod, IntKind.wrap_i64]
  omega
theorem xor_mod2 (a b : Nat) : (a ^^^ b) % 2 = (a + b) % 2 := by
  have h := Nat.testBit_xor (x := a) (y := b) (i := 0)
  rw [Nat.testBit_zero, Nat.testBit_zero, Nat.testBit_zero] at h
  have h2 := Nat.mod_two_eq_zero_or_one (a ^^^ b)
  generalize a ^^^ b = c at h h2 ⊢
  rcases Nat.mod_two_eq_zero_or_one a with ha | ha <;> rcases Nat.mod_two_eq_zero_or_one b with hb | hb <;> rcases h2 with h2 | h2 <;> rw [ha, hb, h2] at h <;> first | omega | exact absurd h (by decide)
theorem par_xor (a b c : Nat) (ha : a < 1024) (hb : b < 1024) (hc : c < 1024) : (bits BinOp.and IntKind.i64 (bits BinOp.xor IntKind.i64 (bits BinOp.xor IntKind.i64 (a : Int) (b : Int)) (c : Int)) 1 == 1) = ((a + b + c) % 2 == 1) := by
  obtain ⟨e1, l1⟩ := bits_xor a b ha hb
  obtain ⟨e2, l2⟩ := bits_xor (a ^^^ b) c l1 hc
  rw [e1, e2, bits_and1 _ (by omega)]
  have : (a ^^^ b ^^^ c) % 2 = (a + b + c) % 2 := by
    rw [xor_mod2, Nat.add_mod, xor_mod2, ← Nat.add_mod]
  rw [this]
  rcases Nat.mod_two_eq_zero_or_one (a + b + c) with h | h <;> rw [h] <;> rfl
theorem par_sum (a b c : Nat) (ha : a < 1024) (hb : b < 1024) (hc : c < 1024) : (bits BinOp.and IntKind.i64 ((a : Int) + (b : Int) + (c : Int)) 1 == 1) = ((a + b + c) % 2 == 1) := by
  have e : ((a : Int) + (b : Int) + (c : Int)) = ((a + b + c : Nat) : Int) := by omega
  rw [e, bits_and1 _ (by omega)]
  rcases Nat.mod_two_eq_zero_or_one (a + b + c) with h | h <;> rw [h] <;> rfl
theorem shr_div (set i : Nat) : ((set >>> i : Nat) : Int) = (set : Int) / 2 ^ i := by
  rw [Nat.shiftRight_eq_div_pow]
  push_cast
  rfl
/-- A map's entries, some with the other sign, as far as they have come. -/
def RevTo (set : Nat) (D Dout : DataW Unit) (left : Lit → Bool) : Prop :=
  (∀ x y z : Int, (0 ≤ x ∧ x < 8) ∧ (0 ≤ y ∧ y < 8) ∧ (0 ≤ z ∧ z < 8) → ∀ c, (∀ zd, D.atKey (kl x y z) zd = .lit (.int .i64 c)) → left (kl x y z) = false → Dout.atKey (kl x y z) (.lit (.int .i64 0)) = .lit (.int .i64 (if odd3 set x.toNat y.toNat z.toNat then -c else c))) ∧
  (∀ x y z : Int, -9223372036854775808 ≤ x ∧ x ≤ 9223372036854775807 → -9223372036854775808 ≤ y ∧ y ≤ 9223372036854775807 → -9223372036854775808 ≤ z ∧ z ≤ 9223372036854775807 → has D (kl x y z) = false → Dout.atKey (kl x y z) (.lit (.int .i64 0)) = .lit (.int .i64 0))
theorem revTo_start (set : Nat) (D : DataW Unit) : RevTo set D (.map []) (has D) :=
  ⟨fun x y z _ c hc hl => absurd ((has_true_of_atKey hc).symm.trans hl) (by simp), fun x y z _ _ _ _ => rfl⟩
theorem revTo_step {set : Nat} {D Dout : DataW Unit} {left : Lit → Bool} {x y z c : Int} (h : RevTo set D Dout left) (hm : IsMap Dout) (hx : (0 ≤ x ∧ x < 8) ∧ (0 ≤ y ∧ y < 8) ∧ (0 ≤ z ∧ z < 8)) (hat : ∀ zd, D.atKey (kl x y z) zd = .lit (.int .i64 c)) :
    RevTo set D (Dout.put (kl x y z) (.lit (.int .i64 (if odd3 set x.toNat y.toNat z.toNat then -c else c)))) (fun k => left k && !k.sameKey (kl x y z)) := by
  refine ⟨fun x' y' z' hx' c' hc' hl => ?_, fun x' y' z' h1 h2 h3 hn => ?_⟩
  · by_cases e : kl x' y' z' = kl x y z
    · obtain ⟨rfl, rfl, rfl⟩ := kl_inj (by omega) (by omega) (by omega) (by omega) (by omega) (by omega) e
      have hcc := (hc' .nil).symm.trans (hat .nil)
      injection hcc with hcc
      injection hcc with _ hcc
      subst hcc
      rw [atKey_put_same hm (isKey_kl _ _ _)]
    · rw [atKey_put_other e]
      refine h.1 x' y' z' hx' c' hc' ?_
      simp only [Bool.and_eq_false_iff] at hl
      rcases hl with hl | hl
      · exact hl
      · exact absurd (WideAt.sameKey_eq (by simpa using hl)) e
  · by_cases e : kl x' y' z' = kl x y z
    · rw [e, has_true_of_atKey hat] at hn; cases hn
    · rw [atKey_put_other e]; exact h.2 x' y' z' h1 h2 h3 hn
theorem kl_has {D : DataW Unit} (k : Lit) : has D k = false ∨ ∃ d, ∀ zd, D.atKey k zd = d := by
  cases hh : has D k
  · exact .inl rfl
  · refine .inr ?_
    cases D <;> try (cases hh; done)
    rename_i es
    obtain ⟨p, hp, hpk⟩ := List.any_eq_true.1 hh
    have hs : (es.find? (fun p => p.1.sameKey k)).isSome = true := List.find?_isSome.2 ⟨p, hp, hpk⟩
    obtain ⟨q, hq⟩ := Option.isSome_iff_exists.1 hs
    refine ⟨q.2, fun zd => ?_⟩
    simp only [DataW.atKey, hq]
/-- At the end the map has the reversed signs. -/
theorem revTo_end {set : Nat} {D Dout : DataW Unit} {left : Lit → Bool} {f : Int → Int → Int → Int} (h : RevTo set D Dout left) (hl : ∀ k, left k = false)
    (hr : ∀ x y z : Int, -9223372036854775808 ≤ x ∧ x ≤ 9223372036854775807 → -9223372036854775808 ≤ y ∧ y ≤ 9223372036854775807 → -9223372036854775808 ≤ z ∧ z ≤ 9223372036854775807 → D.atKey (kl x y z) (.lit (.int .i64 0)) = .lit (.int .i64 (f x y z))) (hk : KeysIn D) :
    ∀ x y z : Int, -9223372036854775808 ≤ x ∧ x ≤ 9223372036854775807 → -9223372036854775808 ≤ y ∧ y ≤ 9223372036854775807 → -9223372036854775808 ≤ z ∧ z ≤ 9223372036854775807 → Dout.atKey (kl x y z) (.lit (.int .i64 0)) = .lit (.int .i64 (revF set f x y z)) := fun x y z hx hy hz => by
  rcases kl_has (D := D) (kl x y z) with hn | ⟨d, hd⟩
  · rw [h.2 x y z hx hy hz hn]
    have := hr x y z hx hy hz
    rw [atKey_of_not_has hn] at this
    injection this with this
    injection this with _ this
    unfold revF
    rw [← this]
    simp
  · have h0 := (hd _).symm.trans (hr x y z hx hy hz)
    subst h0
    by_cases hin : (0 ≤ x ∧ x < 8) ∧ (0 ≤ y ∧ y < 8) ∧ 0 ≤ z ∧ z < 8
    · rw [h.1 x y z hin _ hd (hl _)]; rfl
    · have h1 := hk x y z hx hy hz hin .nil
      rw [hd] at h1
      cases h1
theorem key_inv {x : Int × Int × Int} {l : Lit} (h : keyOf Tryz.prog 92 (.agg #[.int .i64 x.1, .int .i64 x.2.1, .int .i64 x.2.2]) = some l) :
    ((-9223372036854775808 ≤ x.1 ∧ x.1 ≤ 9223372036854775807) ∧ (-9223372036854775808 ≤ x.2.1 ∧ x.2.1 ≤ 9223372036854775807) ∧ (-9223372036854775808 ≤ x.2.2 ∧ x.2.2 ≤ 9223372036854775807)) ∧ l = kl x.1 x.2.1 x.2.2 := by
  obtain ⟨y, hy, h1, h2, h3⟩ := inv_three h
  simp only [Value.agg.injEq, Array.mk.injEq, List.cons.injEq, Value.int.injEq, true_and, and_true] at hy
  obtain ⟨e1, e2, e3⟩ := hy
  rw [← e1] at h1; rw [← e2] at h2; rw [← e3] at h3
  have b1 := bounds_i64 h1
  have b2 := bounds_i64 h2
  have b3 := bounds_i64 h3
  refine ⟨⟨b1, b2, b3⟩, ?_⟩
  rw [key_three b1 b2 b3] at h
  exact (Option.some.inj h).symm
theorem odd3_le (set : Nat) (hs : set < 1024) (i : Nat) : set >>> i < 1024 := by
  rw [Nat.shiftRight_eq_div_pow]
  exact Nat.lt_of_le_of_lt (Nat.div_le_self _ _) hs
end Go.Proofs.YtpjjohbahhaeoaaGreatDoor.Sg
/- Signs with the elements of a set reversed: spec's. -/
namespace Go.Proofs.YtpjjohbahhaeoaaGreatDoor.Sg
open Go.RowKit Pt
/-- The signs of three elements in order, after the elements of a set are reversed. -/
def rvF (n : Nat) (s : List UInt8) (set : Nat) (i j k : Nat) : Int := if odd3 set i j k then -(sgnF (lookS n s) i j k) else sgnF (lookS n s) i j k
theorem shr_bd (set i : Nat) (h : set < 1024) : 0 ≤ (set : Int) / 2 ^ i ∧ (set : Int) / 2 ^ i ≤ 1023 := by
  rw [← shr_div]
  have := odd3_le set h i
  generalize set >>> i = x at this ⊢
  omega
set_option maxHeartbeats 3200000 in
set_option maxRecDepth 100000 in
theorem l4Reverse_any (n : Nat) (s : ByteArray) (set : Nat) (h : arB n s.data.toList = true) (hset : set < 1024) (w : World) :
    Calls Tryz.prog 87 #[sg n s, .int .i64 set] w fun e w' => e = .returned (sg n ⟨(text3 n (rvF n s.data.toList set)).toArray⟩) ∧ Below w.heap.size w w' := by
  obtain ⟨_, h7, -, -⟩ := arB_yes h
  have h7 : n ≤ 7 := by omega
  have hsz : (w.alloc (.cells #[.int .i64 n, .string s] 30)).heap.size = w.heap.size + 1 := by simp
  have HM := Lib.hid (resC_made (w.alloc (.cells #[.int .i64 n, .string s] 30)) 30)
  have HX := Lib.hid ((box_made w n s 30).alloc (.cells #[.int .i64 0, .string ⟨#[]⟩] 30))
  have HB := Lib.hid ((Below.refl w.heap.size w).alloc (Nat.le_refl _) (.cells #[.int .i64 n, .string s] 30))
  obtain ⟨G, hG⟩ : ∃ G : Nat → Nat → Nat → Int, ∀ x y z : Nat, sgnF (lookS n s.data.toList) x y z = G x y z := ⟨_, fun _ _ _ => rfl⟩
  have hbd0 : ∀ x y z, -1 ≤ lookS n s.data.toList x y z ∧ lookS n s.data.toList x y z ≤ 1 := fun x y z => by rw [lookS_yes h]; exact look_bd _ _ _ _ _
  have HBD : Hid (∀ x y z, -1 ≤ G x y z ∧ G x y z ≤ 1) := Lib.hid (fun x y z => by rw [← hG]; exact sgnF_bd hbd0 x y z)
  have HL : Hid (∀ (i j k : Nat) (W : World), i < j → j < k → k < n → Calls Tryz.prog 64 #[sg n s, .int .i64 i, .int .i64 j, .int .i64 k] W fun e w' => e = .returned (.int .i64 (G i j k)) ∧ Below W.heap.size W w') := Lib.hid (fun i j k W h1 h2 h3 => by
    rw [← hG]; exact l3At_any n s i j k h (by omega) (by omega) h3 (by omega) (by omega) (by omega) W)
  have HG : Hid (∀ i j k, rvF n s.data.toList set i j k = if odd3 set i j k then -(G i j k) else G i j k) := Lib.hid (fun i j k => by unfold rvF; rw [hG])
  clear h hG hbd0
  obtain ⟨w1, hw1⟩ : ∃ w1, w1 = (w.alloc (.cells #[.int .i64 n, .string s] 30)).alloc (.cells #[.int .i64 0, .string ⟨#[]⟩] 30) := ⟨_, rfl⟩
  have hs1 : w1.heap.size = w.heap.size + 1 + 1 := by rw [hw1]; simp
  have X1 := HX
  rw [← hw1] at X1
  have R1 := HM
  rw [← hw1] at R1
  have O0 := Lib.hid (outC_made w1 n ⟨#[]⟩ 30)
  have P0 : Hid (PickSt (w.heap.size + 1 + 1) w1 n (textTo n (rvF n s.data.toList set) 0 (0 + 1) (0 + 2)) (((w.alloc (.cells #[.int .i64 n, .string s] 30)).alloc (.cells #[.int .i64 0, .string ⟨#[]⟩] 30)).alloc (.cells #[.int .i64 n, .string ⟨#[]⟩] 30))) := Lib.hid (by
    have h0 := O0.out
    rw [hs1] at h0
    rw [← hw1]
    exact ⟨by rw [textTo_zero h7]; exact h0, (Below.refl (w.heap.size + 1 + 1) w1).alloc (by omega) _⟩)
  generalize rvF n s.data.toList set = F at P0 HG
  have HW1 := Lib.hid hs1
  clear hw1 HX HM O0 hs1
  go_enter Tryz.func87, Tryz.ntmps87
  go_wp2
  go_loopw [6] (fun c wr => ∃ i : Nat, i ≤ n ∧ c = .int .i64 i ∧ Hid (PickSt (w.heap.size + 1 + 1) w1 n (textTo n F i (i + 1) (i + 2)) wr)) (fun c _ => n - (intOf c).toNat)
  case atStart => exact ⟨0, Nat.zero_le _, rfl, P0⟩
  case round =>
    obtain ⟨i, hin, rfl, HP⟩ := hrel
    obtain ⟨x0, x1, -⟩ := X1.out.on' HP.out.2 (by omega) (by rw [HW1.out]; omega)
    by_cases hlt : i < n
    · go_wp2
      go_loopw [7] (fun c wr => ∃ j : Nat, i < j ∧ j ≤ n ∧ c = .int .i64 j ∧ Hid (PickSt (w.heap.size + 1 + 1) w1 n (textTo n F i j (j + 1)) wr)) (fun c _ => n - (intOf c).toNat)
      case atStart => exact ⟨i + 1, by omega, by omega, by go_num, HP⟩
      case round =>
        obtain ⟨j, hij, hjn, rfl, HP⟩ := hrel
        obtain ⟨x0, x1, -⟩ := X1.out.on' HP.out.2 (by omega) (by rw [HW1.out]; omega)
        by_cases hltj : j < n
        · go_wp2
          go_loopw [8] (fun c wr => ∃ k : Nat, j < k ∧ k ≤ n ∧ c = .int .i64 k ∧ Hid (PickSt (w.heap.size + 1 + 1) w1 n (textTo n F i j k) wr)) (fun c _ => n - (intOf c).toNat)
          case atStart => exact ⟨j + 1, by omega, by omega, by go_num, HP⟩
          case round =>
            obtain ⟨k, hjk, hkn, rfl, HP⟩ := hrel
            obtain ⟨x0, x1, -⟩ := X1.out.on' HP.out.2 (by omega) (by rw [HW1.out]; omega)
            by_cases hltk : k < n
            · have hXl := textTo_le h7 F i j k
              have HST : Hid (textTo n F i j (k + 1) = textTo n F i j k ++ [byteOf (F i j k)]) := Lib.hid (textTo_step h7 F hij hjk hltk)
              have hpx := par_sum (set >>> i) (set >>> j) (set >>> k) (odd3_le set hset i) (odd3_le set hset j) (odd3_le set hset k)
              have ho : odd3 set i j k = (((set >>> i) + (set >>> j) + (set >>> k)) % 2 == 1) := rfl
              rw [← ho, shr_div, shr_div, shr_div] at hpx
              obtain ⟨p1, p2⟩ := shr_bd set i hset
              obtain ⟨p3, p4⟩ := shr_bd set j hset
              obtain ⟨p5, p6⟩ := shr_bd set k hset
              have hgv := HG.out i j k
              obtain ⟨v1, v2⟩ := HBD.out i j k
              have HC := Lib.hid (fun W => HL.out i j k W hij hjk hltk)
              generalize textTo n F i j k = L at hXl HP HST
              generalize G i j k = v at HC v1 v2 hgv
              have hr1 : ∀ W (x : UInt8), (Op.stringOp .add ⟨L.toArray⟩ ⟨#[x]⟩).run Tryz.prog W = .ok (.string (⟨L.toArray⟩ ++ ⟨#[x]⟩)) W := fun W x => run_string_add_sum W _ _ (by show L.toArray.size + 1 ≤ _; simp; omega)
              clear ho
              cases hod : odd3 set i j k
              all_goals
                rw [hod] at hpx hgv
                simp only [if_true, if_false, Bool.false_eq_true] at hgv
                rw [hgv] at HST
                clear hgv hod
              · go_wp2_with fail
                refine (HC.out _).mono ?_
                rintro e w3 ⟨rfl, hb3⟩
                obtain ⟨⟨o0, o1⟩, ⟨f0, f1⟩⟩ := HP.out.1.on hb3
                have HB3 := Lib.hid hb3
                clear hb3 o0 f0
                go_wp2
                refine region_tail 6 (by kernel_rfl) (by kernel_rfl) ?_
                intro W hW
                have g1 : W.cell? ⟨w.heap.size + 1 + 1, 1, none⟩ = some (.string ⟨L.toArray⟩) := by rw [hW]; exact o1
                have g2 : W.frozen? ⟨w.heap.size + 1 + 1, 1, none⟩ = false := by rw [hW]; exact f1
                have HP2 : Hid (PickSt (w.heap.size + 1 + 1) w1 n (L ++ [byteOf (v)]) (W.setCell ⟨w.heap.size + 1 + 1, 1, none⟩ (.string (⟨L.toArray⟩ ++ ⟨#[byteOf (v)]⟩)))) := Lib.hid (HP.out.store (by rw [hW]; exact HB3.out.drew) _)
                rw [← HST.out] at HP2
                clear hW o1 f1 x0 x1
                simp only [List.take_succ_cons, List.take_zero, List.drop_succ_cons, List.drop_zero]
                still_step
                still_step
                still_step
                still_call (l3Byte_any _ _)
                still_step
                still_step
                refine wpStill_nil ?_
                change wpList _ _ _ _ _ W
                go_wp2
                exact ⟨⟨k + 1, by omega, by omega, by go_num, HP2⟩, by simp only [intOf]; omega⟩
              · go_wp2_with fail
                refine (HC.out _).mono ?_
                rintro e w3 ⟨rfl, hb3⟩
                obtain ⟨⟨o0, o1⟩, ⟨f0, f1⟩⟩ := HP.out.1.on hb3
                have HB3 := Lib.hid hb3
                clear hb3 o0 f0
                go_wp2
                refine region_tail 6 (by kernel_rfl) (by kernel_rfl) ?_
                intro W hW
                have g1 : W.cell? ⟨w.heap.size + 1 + 1, 1, none⟩ = some (.string ⟨L.toArray⟩) := by rw [hW]; exact o1
                have g2 : W.frozen? ⟨w.heap.size + 1 + 1, 1, none⟩ = false := by rw [hW]; exact f1
                have HP2 : Hid (PickSt (w.heap.size + 1 + 1) w1 n (L ++ [byteOf (-v)]) (W.setCell ⟨w.heap.size + 1 + 1, 1, none⟩ (.string (⟨L.toArray⟩ ++ ⟨#[byteOf (-v)]⟩)))) := Lib.hid (HP.out.store (by rw [hW]; exact HB3.out.drew) _)
                rw [← HST.out] at HP2
                clear hW o1 f1 x0 x1
                simp only [List.take_succ_cons, List.take_zero, List.drop_succ_cons, List.drop_zero]
                still_step
                still_step
                still_step
                still_call (l3Byte_any _ _)
                still_step
                still_step
                refine wpStill_nil ?_
                change wpList _ _ _ _ _ W
                go_wp2
                exact ⟨⟨k + 1, by omega, by omega, by go_num, HP2⟩, by simp only [intOf]; omega⟩
            · have HP2 : Hid (PickSt (w.heap.size + 1 + 1) w1 n (textTo n F i (j + 1) (j + 1 + 1)) wr) := Lib.hid (by
                have := HP.out
                rw [show k = n by omega, textTo_inner h7 F hij hltj] at this
                exact this)
              go_wp2
              exact ⟨⟨j + 1, by omega, by omega, by go_num, HP2⟩, by simp only [intOf]; omega⟩
        · have HP2 : Hid (PickSt (w.heap.size + 1 + 1) w1 n (textTo n F (i + 1) (i + 1 + 1) (i + 1 + 2)) wr) := Lib.hid (by
            have := HP.out
            rw [show j = n by omega, textTo_mid h7 F hlt] at this
            exact this)
          go_wp2
          exact ⟨⟨i + 1, by omega, by go_num, HP2⟩, by simp only [intOf]; omega⟩
    · have HP2 : Hid (PickSt (w.heap.size + 1 + 1) w1 n (text3 n F) wr) := Lib.hid (by
        have := HP.out
        rw [show i = n by omega, textTo_end h7 F] at this
        exact this)
      obtain ⟨⟨⟨o0, o1⟩, -⟩, hbb⟩ := HP2.out
      obtain ⟨⟨e0, e1⟩, ⟨z0, z1⟩, B1⟩ := R1.out.on' hbb (by rw [hsz]; omega) (by rw [HW1.out]; omega)
      have B := HB.out.trans (B1.mono (by rw [hsz]; omega))
      rw [hsz] at e0 e1 z0 z1
      obtain ⟨k0, k1⟩ := ret_sg e0 e1 (.int .i64 n) (.string ⟨(text3 n F).toArray⟩)
      generalize hT : (text3 n F).toArray = T at o1 k0 k1
      have HTT := Lib.hid hT
      clear B1 hbb hT
      go_wp2
      exact bodyPost_ret (v := .agg #[.int .i64 n, .string ⟨T⟩]) (by simp [results, Tryz.results87, go_sem, k0, k1]) rfl ⟨ret_v (by rw [HTT.out]), (B.setCell (by simp) _).setCell (by simp) _⟩
end Go.Proofs.YtpjjohbahhaeoaaGreatDoor.Sg
/- impl.signsBy over a method of a map: the signs that it tells of each three. -/
namespace Go.Proofs.YtpjjohbahhaeoaaGreatDoor.Sg
open Go.RowKit Pt
end Go.Proofs.YtpjjohbahhaeoaaGreatDoor.Sg
/- ReverseElement, as impl and spec answer it; the law. -/
namespace Go.Proofs.YtpjjohbahhaeoaaGreatDoor.Sg
open Go.RowKit Pt
def zeroV : Value := .tuple #[sg 0 ⟨#[]⟩, .bool false]
/-- What ReverseElement answers for signs and an element. -/
def revV (n : Nat) (s : ByteArray) (i : Nat) : Value := .tuple #[sg n ⟨(text3 n (rvF n s.data.toList (2 ^ i))).toArray⟩, .bool true]
theorem mapK_at (w : World) (n : Nat) (s : ByteArray) (hs : s.size ≤ 9223372036854775807) (W : World) (hW : WAt w n s W) :
    Calls Tryz.prog 58 #[sg n s] W fun e w' => ∃ b, e = .returned (.map (some b)) ∧ (w'.cell? ⟨w.heap.size, 0, none⟩ = some (.int .i64 n) ∧ w'.cell? ⟨w.heap.size, 1, none⟩ = some (.string s)) ∧ Hid (WAt w n s w' ∧ MapK w' b (lookS n s.data.toList)) :=
  (mapOf_k n s hs W).mono fun _e _w' ⟨b, he, _, hm, hb⟩ => ⟨b, he, ⟨(hW.on hb).b0, (hW.on hb).b1⟩, Lib.hid ⟨hW.on hb, hm⟩⟩
theorem sgnF_rev {f : Int → Int → Int → Int} {set i j k : Nat} (h1 : i < j) (h2 : j < k) : sgnF (revF set f) i j k = if odd3 set i j k then -(f i j k) else f i j k := by
  rw [sgnF_of (srt_asc (i := i) (j := j) (k := k) (by omega) (by omega))]
  unfold revF
  simp
theorem sgnF_plain {f : Int → Int → Int → Int} {i j k : Nat} (h1 : i < j) (h2 : j < k) : sgnF f i j k = f i j k := by
  rw [sgnF_of (srt_asc (i := i) (j := j) (k := k) (by omega) (by omega))]
  simp
theorem text_rev {n : Nat} (h7 : n ≤ 7) (s : List UInt8) (set : Nat) : text3 n (fun i j k => sgnF (revF set (lookS n s)) i j k) = text3 n (rvF n s set) :=
  text3_congr h7 fun i j k h1 h2 _ => by rw [sgnF_rev h1 h2]; unfold rvF; rw [sgnF_plain h1 h2]
end Go.Proofs.YtpjjohbahhaeoaaGreatDoor.Sg
/- ReverseElement, as impl answers it. -/
namespace Go.Proofs.YtpjjohbahhaeoaaGreatDoor.Sg
open Go.RowKit Pt
end Go.Proofs.YtpjjohbahhaeoaaGreatDoor.Sg
/- AcyclicSets, as impl and spec answer it; the law. -/
namespace Go.Proofs.YtpjjohbahhaeoaaGreatDoor.Sg
open Go.RowKit Pt NewI
theorem text3_43 (n : Nat) (g : Nat → Nat → Nat → Int) : ∀ b ∈ text3 n g, b = 43 ∨ b = 45 := fun b hb => by
  unfold text3 at hb
  obtain ⟨t, -, rfl⟩ := List.mem_map.1 hb
  unfold byteOf
  split
  · exact .inl rfl
  · exact .inr rfl
theorem arB_text {n : Nat} (h3 : 3 ≤ n) (h7 : n ≤ 7) (g : Nat → Nat → Nat → Int) : arB n (text3 n g) = true := arB_of (by omega) (by omega) (by rw [text3_length h7, Int.toNat_natCast]) (text3_43 n g)
theorem sgnF_text {n : Nat} (h3 : 3 ≤ n) (h7 : n ≤ 7) {g : Nat → Nat → Nat → Int} {i j k : Nat} (h1 : i < j) (h2 : j < k) (hk : k < n) (hg : g i j k = 1 ∨ g i j k = -1) : sgnF (lookS n (text3 n g)) i j k = g i j k := by
  rw [sgnF_asc (t := (i, j, k)) (arB_text h3 h7 g) (idx_get h7 h1 h2 hk), List.getD_eq_getElem?_getD]
  unfold text3
  rw [List.getElem?_map, idx_get h7 h1 h2 hk]
  simp only [Option.map_some, Option.getD_some]
  rcases hg with h | h <;> rw [h] <;> rfl
/-- Are the signs without a circuit of one kind after the elements of a set are reversed? -/
def acS (n : Nat) (s : List UInt8) (set : Nat) : Bool := acB (sgnF (revF set (lookS n s))) n
theorem acS_spec {n : Nat} {s : List UInt8} (h : arB n s = true) (set : Nat) : acB (sgnF (lookS n (text3 n (rvF n s set)))) n = acS n s set := by
  obtain ⟨h3, h7, -⟩ := arB_yes h
  have h3 : 3 ≤ n := by omega
  have h7 : n ≤ 7 := by omega
  refine acB_congr h7 fun i j k h1 h2 hk => ?_
  have h0 := sgn_one h (show i < n by omega) (show j < n by omega) hk (show i ≠ j by omega) (show j ≠ k by omega) (show i ≠ k by omega)
  rw [sgnF_text h3 h7 h1 h2 hk (by unfold rvF; split <;> omega), sgnF_rev h1 h2]
  unfold rvF
  rw [sgnF_plain h1 h2]
/-- The sets among the first p. -/
def setsTo (q : Nat → Bool) (p : Nat) : List Int := ((List.range p).filter q).map fun (x : Nat) => (x : Int)
theorem setsTo_hit {q : Nat → Bool} {p : Nat} (h : q p = true) : setsTo q (p + 1) = setsTo q p ++ [(p : Int)] := by unfold setsTo; rw [List.range_succ, List.filter_append, List.map_append]; simp [h]
theorem setsTo_miss {q : Nat → Bool} {p : Nat} (h : q p = false) : setsTo q (p + 1) = setsTo q p := by unfold setsTo; rw [List.range_succ, List.filter_append, List.map_append]; simp [h]
theorem setsTo_length (q : Nat → Bool) (p : Nat) : (setsTo q p).length ≤ p := by unfold setsTo; rw [List.length_map]; exact Nat.le_trans (List.length_filter_le _ _) (by simp)
/-- What AcyclicSets answers. -/
def setsZ (n : Int) (s : List UInt8) : List Int := if matB n s = true then setsTo (acS n.toNat s) (2 ^ n.toNat) else []
theorem setsZ_no {n : Int} {s : List UInt8} (h : matB n s = false) : setsZ n s = [] := by unfold setsZ; rw [h]; rfl
theorem setsZ_yes {n : Nat} {s : List UInt8} (h : matB n s = true) : setsZ n s = setsTo (acS n s) (2 ^ n) := by unfold setsZ; rw [if_pos h, Int.toNat_natCast]
theorem ownsZ_on {w w' : World} {B : Nat} {v : Value} {zs : List Int} (h : OwnsZ w B v zs) (hb : Below w.heap.size w w') : OwnsZ w' B v zs :=
  World.ownsRow.kept h (row := none) ⟨hb.os, hb.tape, hb.output, hb.size, fun k hk _ => hb.block k hk⟩ (by cases v.ownBlock <;> simp)
theorem pow_le {n : Nat} (h7 : n ≤ 7) : 2 ^ n ≤ 128 := by
  rcases (by omega : n = 0 ∨ n = 1 ∨ n = 2 ∨ n = 3 ∨ n = 4 ∨ n = 5 ∨ n = 6 ∨ n = 7) with rfl | rfl | rfl | rfl | rfl | rfl | rfl | rfl <;> decide
end Go.Proofs.YtpjjohbahhaeoaaGreatDoor.Sg
