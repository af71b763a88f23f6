/- Several texts in one: SgMap, SgMapOf, SgAt, RuMath, RuBrk, RuFours. -/
import Derived.Test.YtinlnafkmoabbaaGreatDoorMgSt
import Derived.Maps.OwnOps
import Derived.Maps.Views
import Derived.DeepKeys4
import Derived.StillTailTactics
import Derived.Maps.OwnSet
import Derived.Test.YtinlnafkmoabbaaGreatDoorMgP
import Derived.BigQuiet
/- Signs in a map from three elements: the map's reading, the sign of any three (impl's signMap.at). -/
namespace Go.Proofs.YtinlnafkmoabbaaGreatDoor.Sg
open Go.RowKit Pt Go.Maps
theorem laidOut : laidOutB Tryz.prog = true := by kernel_rfl
set_option maxRecDepth 100000 in
theorem law : Keyed Tryz.prog 99 := Keyed.of_law (deep_law_laid laidOut (m := 9) (by omega) (of_decide_eq_true (by kernel_rfl)) (by kernel_rfl) (by kernel_rfl))
/-- What a key reads as. -/
def kl (a b c : Int) : Lit := .string (keyBytes [.int .i64 a, .int .i64 b, .int .i64 c])
theorem wf_i {a : Int} (h : -9223372036854775808 ≤ a ∧ a ≤ 9223372036854775807) : (Lit.int .i64 a).wf = true := WalkArith.wf_i64 (by omega)
set_option maxRecDepth 100000 in
theorem key_three {a b c : Int} (ha : -9223372036854775808 ≤ a ∧ a ≤ 9223372036854775807) (hb : -9223372036854775808 ≤ b ∧ b ≤ 9223372036854775807) (hc : -9223372036854775808 ≤ c ∧ c ≤ 9223372036854775807) :
    keyOf Tryz.prog 99 (.agg #[.int .i64 a, .int .i64 b, .int .i64 c]) = some (kl a b c) := by
  have u1 : Tryz.prog.underlying 99 = some (.array 3 3) := by kernel_rfl
  have u2 : Tryz.prog.underlying 3 = some (.int .i64) := by kernel_rfl
  have k1 : Tryz.prog.keyType 99 = true := by kernel_rfl
  have z1 : Tryz.prog.cellsOf 99 = 3 := by kernel_rfl
  have z2 : Tryz.prog.cellsOf 3 = 1 := by kernel_rfl
  obtain ⟨d, hd⟩ : ∃ d, Tryz.prog.types.size + 1 = d + 2 := ⟨Tryz.prog.types.size - 1, by have : 0 < Tryz.prog.types.size := of_decide_eq_true (by kernel_rfl); omega⟩
  have hr : (List.range 3).mapM (fun i => Tryz.prog.keyLits (d + 1) 3 ((([.int .i64 a, .int .i64 b, .int .i64 c] : List Value).drop (i * 1)).take 1)) = some [[.int .i64 a], [.int .i64 b], [.int .i64 c]] := by
    rw [show List.range 3 = [0, 1, 2] by decide]
    simp [Program.keyLits, u2, wf_i ha, wf_i hb, wf_i hc]
  have hk : Tryz.prog.keyLits (d + 2) 99 [.int .i64 a, .int .i64 b, .int .i64 c] = some [.int .i64 a, .int .i64 b, .int .i64 c] := by
    unfold Program.keyLits
    simp only [u1, z1, z2, List.length_cons, List.length_nil]
    rw [if_pos (by decide), hr]
    rfl
  unfold keyOf
  simp only [u1]
  have hf : Value.formed Tryz.prog 99 (.agg #[.int .i64 a, .int .i64 b, .int .i64 c]) = true := by
    unfold Value.formed
    simp only [u1, z1]
    rfl
  rw [k1, hf, hd]
  have hcells : (Value.agg #[.int .i64 a, .int .i64 b, .int .i64 c]).cells.toList = [.int .i64 a, .int .i64 b, .int .i64 c] := rfl
  rw [hcells, hk]
  rfl
theorem kl_inj {a b c a' b' c' : Int} (ha : -9223372036854775808 ≤ a ∧ a ≤ 9223372036854775807) (hb : -9223372036854775808 ≤ b ∧ b ≤ 9223372036854775807) (hc : -9223372036854775808 ≤ c ∧ c ≤ 9223372036854775807)
    (ha' : -9223372036854775808 ≤ a' ∧ a' ≤ 9223372036854775807) (hb' : -9223372036854775808 ≤ b' ∧ b' ≤ 9223372036854775807) (hc' : -9223372036854775808 ≤ c' ∧ c' ≤ 9223372036854775807) (h : kl a b c = kl a' b' c') : a = a' ∧ b = b' ∧ c = c' := by
  have h1 := key_three ha hb hc
  have h2 := key_three ha' hb' hc'
  rw [← h] at h2
  have := law.inj h1 h2
  simpa using this
theorem zeroInt (w : World) : (zeroValue 3).run Tryz.prog w = .ok (.int .i64 0) w := by kernel_rfl
/-- Block b is a map that has f a b c at the key a, b, c. -/
def MapIs (w : World) (b : Nat) (f : Int → Int → Int → Int) : Prop :=
  (∃ (m : Nat) (D : DataW Unit), w.ownsMap Tryz.prog 99 (plainElem Tryz.prog 3) b m D ∧ ∀ x y z : Int, -9223372036854775808 ≤ x ∧ x ≤ 9223372036854775807 → -9223372036854775808 ≤ y ∧ y ≤ 9223372036854775807 → -9223372036854775808 ≤ z ∧ z ≤ 9223372036854775807 → D.atKey (kl x y z) (.lit (.int .i64 0)) = .lit (.int .i64 (f x y z))) ∧
  ∀ x y z, -1 ≤ f x y z ∧ f x y z ≤ 1
theorem MapIs.lt {w : World} {b : Nat} {f : Int → Int → Int → Int} (h : MapIs w b f) : b < w.heap.size := by
  obtain ⟨⟨m, D, h, -⟩, -⟩ := h
  exact World.ownsMap.lt h
theorem MapIs.on {w w' : World} {b : Nat} {f : Int → Int → Int → Int} (h : MapIs w b f) (hb : Below w.heap.size w w') : MapIs w' b f := by
  obtain ⟨⟨m, D, h, ha⟩, hf⟩ := h
  exact ⟨⟨m, D, World.ownsMap.kept h (row := none) ⟨hb.os, hb.tape, hb.output, hb.size, fun k hk _ => hb.block k hk⟩ (by simp), ha⟩, hf⟩
theorem MapIs.drewN {w : World} {b : Nat} {f : Int → Int → Int → Int} (h : MapIs w b f) (n : Nat) : MapIs (w.drewN n) b f := h
/-- The sign of any three, by those in order. -/
def sgnF (f : Int → Int → Int → Int) (i j k : Int) : Int := (srt i j k).2.2.2 * f (srt i j k).1 (srt i j k).2.1 (srt i j k).2.2.1
theorem sgnF_of {f : Int → Int → Int → Int} {i j k a b c p : Int} (h : srt i j k = (a, b, c, p)) : sgnF f i j k = p * f a b c := by unfold sgnF; rw [h]
set_option maxHeartbeats 1600000 in
set_option maxRecDepth 100000 in
theorem at_any (b : Nat) (f : Int → Int → Int → Int) (i j k : Int) (hi : -9223372036854775808 ≤ i ∧ i ≤ 9223372036854775807) (hj : -9223372036854775808 ≤ j ∧ j ≤ 9223372036854775807) (hk : -9223372036854775808 ≤ k ∧ k ≤ 9223372036854775807) (w : World) (hm : MapIs w b f) :
    Calls Tryz.prog 146 #[.map (some b), .int .i64 i, .int .i64 j, .int .i64 k] w fun e w' => e = .returned (.int .i64 (sgnF f i j k)) ∧ w = w' := by
  obtain ⟨⟨m, D, hown, hat⟩, hbd⟩ := hm
  have HAT : Hid (∀ x y z c : Int, -9223372036854775808 ≤ x ∧ x ≤ 9223372036854775807 → -9223372036854775808 ≤ y ∧ y ≤ 9223372036854775807 → -9223372036854775808 ≤ z ∧ z ≤ 9223372036854775807 → D.atKey (kl x y z) (.lit (.int .i64 0)) = .lit (.int .i64 c) → c = f x y z) := Lib.hid (fun x y z c hx hy hz h => by
    have := (hat x y z hx hy hz).symm.trans h
    injection this with this
    injection this with _ this
    exact this.symm)
  have HBD := Lib.hid hbd
  clear hat hbd
  by_cases h1 : j < i
  · by_cases h2 : k < i
    · by_cases h3 : k < j
      · have HE : Hid (srt i j k = (k, j, i, -1)) := Lib.hid (by unfold srt; simp [h1, h2, h3]; try omega)
        have HF := Lib.hid (sgnF_of (f := f) HE.out)
        have hbc := HBD.out k j i
        go_enter Tryz.func146, Tryz.ntmps146
        go_wp2_with (at_lookup; refine wpList_lookup_own_int _ rfl _ _ 73 rfl 99 3 .i64 law Tryz.underlying73 Tryz.underlying3 (zeroInt _) b m D rfl hown _ _ rfl (key_three hk hj hi) ?_; intro c hat hwc; obtain rfl := HAT.out _ _ _ _ hk hj hi hat)
        go_ret
        exact ⟨ret_int (by rw [HF.out]; omega), rfl⟩
      · have HE : Hid (srt i j k = (j, k, i, 1)) := Lib.hid (by unfold srt; simp [h1, h2, h3]; try omega)
        have HF := Lib.hid (sgnF_of (f := f) HE.out)
        have hbc := HBD.out j k i
        go_enter Tryz.func146, Tryz.ntmps146
        go_wp2_with (at_lookup; refine wpList_lookup_own_int _ rfl _ _ 73 rfl 99 3 .i64 law Tryz.underlying73 Tryz.underlying3 (zeroInt _) b m D rfl hown _ _ rfl (key_three hj hk hi) ?_; intro c hat hwc; obtain rfl := HAT.out _ _ _ _ hj hk hi hat)
        go_ret
        exact ⟨ret_int (by rw [HF.out]; omega), rfl⟩
    · have HE : Hid (srt i j k = (j, i, k, -1)) := Lib.hid (by unfold srt; simp [h1, h2]; try omega)
      have HF := Lib.hid (sgnF_of (f := f) HE.out)
      have hbc := HBD.out j i k
      go_enter Tryz.func146, Tryz.ntmps146
      go_wp2_with (at_lookup; refine wpList_lookup_own_int _ rfl _ _ 73 rfl 99 3 .i64 law Tryz.underlying73 Tryz.underlying3 (zeroInt _) b m D rfl hown _ _ rfl (key_three hj hi hk) ?_; intro c hat hwc; obtain rfl := HAT.out _ _ _ _ hj hi hk hat)
      go_ret
      exact ⟨ret_int (by rw [HF.out]; omega), rfl⟩
  · by_cases h2 : k < j
    · by_cases h3 : k < i
      · have HE : Hid (srt i j k = (k, i, j, 1)) := Lib.hid (by unfold srt; simp [h1, h2, h3]; try omega)
        have HF := Lib.hid (sgnF_of (f := f) HE.out)
        have hbc := HBD.out k i j
        go_enter Tryz.func146, Tryz.ntmps146
        go_wp2_with (at_lookup; refine wpList_lookup_own_int _ rfl _ _ 73 rfl 99 3 .i64 law Tryz.underlying73 Tryz.underlying3 (zeroInt _) b m D rfl hown _ _ rfl (key_three hk hi hj) ?_; intro c hat hwc; obtain rfl := HAT.out _ _ _ _ hk hi hj hat)
        go_ret
        exact ⟨ret_int (by rw [HF.out]; omega), rfl⟩
      · have HE : Hid (srt i j k = (i, k, j, -1)) := Lib.hid (by unfold srt; simp [h1, h2, h3]; try omega)
        have HF := Lib.hid (sgnF_of (f := f) HE.out)
        have hbc := HBD.out i k j
        go_enter Tryz.func146, Tryz.ntmps146
        go_wp2_with (at_lookup; refine wpList_lookup_own_int _ rfl _ _ 73 rfl 99 3 .i64 law Tryz.underlying73 Tryz.underlying3 (zeroInt _) b m D rfl hown _ _ rfl (key_three hi hk hj) ?_; intro c hat hwc; obtain rfl := HAT.out _ _ _ _ hi hk hj hat)
        go_ret
        exact ⟨ret_int (by rw [HF.out]; omega), rfl⟩
    · have HE : Hid (srt i j k = (i, j, k, 1)) := Lib.hid (by unfold srt; simp [h1, h2]; try omega)
      have HF := Lib.hid (sgnF_of (f := f) HE.out)
      have hbc := HBD.out i j k
      go_enter Tryz.func146, Tryz.ntmps146
      go_wp2_with (at_lookup; refine wpList_lookup_own_int _ rfl _ _ 73 rfl 99 3 .i64 law Tryz.underlying73 Tryz.underlying3 (zeroInt _) b m D rfl hown _ _ rfl (key_three hi hj hk) ?_; intro c hat hwc; obtain rfl := HAT.out _ _ _ _ hi hj hk hat)
      go_ret
      exact ⟨ret_int (by rw [HF.out]; omega), rfl⟩
end Go.Proofs.YtinlnafkmoabbaaGreatDoor.Sg
/- impl.signMapOf: a map that has the sign of each three in order. -/
namespace Go.Proofs.YtinlnafkmoabbaaGreatDoor.Sg
open Go.RowKit Pt Go.Maps
/-- The signs at the threes before number p. -/
def lookTo (n : Nat) (s : List UInt8) (p : Nat) (a b c : Int) : Int := if (0 ≤ a ∧ a < b ∧ b < c ∧ c < n) ∧ idx n a.toNat b.toNat c.toNat < p then sgn1 (s.getD (idx n a.toNat b.toNat c.toNat) 0) else 0
theorem lookTo_zero (n : Nat) (s : List UInt8) (a b c : Int) : lookTo n s 0 a b c = 0 := by unfold lookTo; rw [if_neg (by omega)]
theorem lookTo_all {n : Nat} (hn : n ≤ 7) (s : List UInt8) (a b c : Int) : lookTo n s (cnt n) a b c = look n s a b c := by
  unfold lookTo look
  by_cases h : 0 ≤ a ∧ a < b ∧ b < c ∧ c < n
  · rw [if_pos h, if_pos ⟨h, idx_lt hn (by omega) (by omega) (by omega)⟩]
  · rw [if_neg h, if_neg (fun e => h e.1)]
theorem lookTo_hit {n p : Nat} (hn : n ≤ 7) (s : List UInt8) {t : T3} (ht : (threes n)[p]? = some t) : lookTo n s (p + 1) t.1 t.2.1 t.2.2 = sgn1 (s.getD p 0) := by
  obtain ⟨h1, h2, h3⟩ := threes_mem hn (List.mem_of_getElem? ht)
  have hx := get_idx hn ht
  unfold lookTo
  simp only [Int.toNat_natCast, hx]
  rw [if_pos (by omega)]
theorem lookTo_miss {n p : Nat} (hn : n ≤ 7) (s : List UInt8) {t : T3} (ht : (threes n)[p]? = some t) {a b c : Int} (hne : ¬ (a = t.1 ∧ b = t.2.1 ∧ c = t.2.2)) : lookTo n s (p + 1) a b c = lookTo n s p a b c := by
  unfold lookTo
  by_cases h : 0 ≤ a ∧ a < b ∧ b < c ∧ c < n
  · have hp : idx n a.toNat b.toNat c.toNat ≠ p := fun e => by
      have hg := idx_get hn (i := a.toNat) (j := b.toNat) (k := c.toNat) (by omega) (by omega) (by omega)
      rw [e, ht] at hg
      obtain rfl := Option.some.inj hg
      exact hne ⟨by simp; omega, by simp; omega, by simp; omega⟩
    by_cases hlt : idx n a.toNat b.toNat c.toNat < p
    · rw [if_pos ⟨h, by omega⟩, if_pos ⟨h, hlt⟩]
    · rw [if_neg (by omega), if_neg (by omega)]
  · rw [if_neg (fun e => h e.1), if_neg (fun e => h e.1)]
theorem sgn1_bd (b : UInt8) : -1 ≤ sgn1 b ∧ sgn1 b ≤ 1 := by unfold sgn1; split <;> omega
theorem look_bd (n : Nat) (s : List UInt8) (a b c : Int) : -1 ≤ look n s a b c ∧ look n s a b c ≤ 1 := by
  unfold look
  split
  · exact sgn1_bd _
  · omega
/-- The signs by three numbers in order: none if they are no signs. -/
def lookS (n : Int) (s : List UInt8) (a b c : Int) : Int := if arB n s = true then look n.toNat s a b c else 0
theorem lookS_yes {n : Int} {s : List UInt8} (h : arB n s = true) : lookS n s = look n.toNat s := by funext a b c; unfold lookS; rw [if_pos h]
theorem lookS_no {n : Int} {s : List UInt8} (h : arB n s = false) (a b c : Int) : lookS n s a b c = 0 := by unfold lookS; rw [h]; rfl
/-- A map's keys are small elements alone. -/
def KeysIn (D : DataW Unit) : Prop := ∀ x y z : Int, -9223372036854775808 ≤ x ∧ x ≤ 9223372036854775807 → -9223372036854775808 ≤ y ∧ y ≤ 9223372036854775807 → -9223372036854775808 ≤ z ∧ z ≤ 9223372036854775807 → ¬ ((0 ≤ x ∧ x < 8) ∧ (0 ≤ y ∧ y < 8) ∧ 0 ≤ z ∧ z < 8) → ∀ zd, D.atKey (kl x y z) zd = zd
/-- Block b is a map with small keys that has f a b c at the key a, b, c. -/
def MapK (w : World) (b : Nat) (f : Int → Int → Int → Int) : Prop :=
  (∃ (m : Nat) (D : DataW Unit), m ≤ 35 ∧ w.ownsMap Tryz.prog 99 (plainElem Tryz.prog 3) b m D ∧ (∀ x y z : Int, -9223372036854775808 ≤ x ∧ x ≤ 9223372036854775807 → -9223372036854775808 ≤ y ∧ y ≤ 9223372036854775807 → -9223372036854775808 ≤ z ∧ z ≤ 9223372036854775807 → D.atKey (kl x y z) (.lit (.int .i64 0)) = .lit (.int .i64 (f x y z))) ∧ KeysIn D) ∧ ∀ x y z, -1 ≤ f x y z ∧ f x y z ≤ 1
theorem MapK.is {w : World} {b : Nat} {f : Int → Int → Int → Int} (h : MapK w b f) : MapIs w b f := by
  obtain ⟨⟨m, D, -, ho, hr, -⟩, hf⟩ := h
  exact ⟨⟨m, D, ho, hr⟩, hf⟩
theorem MapK.lt {w : World} {b : Nat} {f : Int → Int → Int → Int} (h : MapK w b f) : b < w.heap.size := h.is.lt
theorem MapK.on {w w' : World} {b : Nat} {f : Int → Int → Int → Int} (h : MapK w b f) (hb : Below w.heap.size w w') : MapK w' b f := by
  obtain ⟨⟨m, D, hm, h, ha, hk⟩, hf⟩ := h
  exact ⟨⟨m, D, hm, World.ownsMap.kept h (row := none) ⟨hb.os, hb.tape, hb.output, hb.size, fun k hk _ => hb.block k hk⟩ (by simp), ha, hk⟩, hf⟩
/-- The map's state at three number p. -/
def MapTo (n : Nat) (s : List UInt8) (p : Nat) (D : DataW Unit) : Prop :=
  (∀ x y z : Int, -9223372036854775808 ≤ x ∧ x ≤ 9223372036854775807 → -9223372036854775808 ≤ y ∧ y ≤ 9223372036854775807 → -9223372036854775808 ≤ z ∧ z ≤ 9223372036854775807 → D.atKey (kl x y z) (.lit (.int .i64 0)) = .lit (.int .i64 (lookTo n s p x y z))) ∧ KeysIn D
theorem mapTo_zero (n : Nat) (s : List UInt8) : MapTo n s 0 (.map []) := ⟨fun x y z _ _ _ => by rw [lookTo_zero]; rfl, fun x y z _ _ _ _ zd => rfl⟩
theorem isKey_kl (a b c : Int) : WideAt.IsKeyLit (kl a b c) := by unfold kl; trivial
theorem mapTo_step {n p : Nat} (hn : n ≤ 7) {s : List UInt8} {D : DataW Unit} {w : World} {b m : Nat} (hown : w.ownsMap Tryz.prog 99 (plainElem Tryz.prog 3) b m D) (h : MapTo n s p D) {t : T3} (ht : (threes n)[p]? = some t) :
    MapTo n s (p + 1) (D.put (kl t.1 t.2.1 t.2.2) (.lit (.int .i64 (sgn1 (s.getD p 0))))) := by
  obtain ⟨h1, h2, h3⟩ := threes_mem hn (List.mem_of_getElem? ht)
  refine ⟨fun x y z hx hy hz => ?_, fun x y z hx hy hz hno zd => ?_⟩
  · by_cases e : x = t.1 ∧ y = t.2.1 ∧ z = t.2.2
    · obtain ⟨rfl, rfl, rfl⟩ := e
      rw [lookTo_hit hn s ht, atKey_put_same (World.ownsMap.isMap hown) (isKey_kl _ _ _)]
    · rw [lookTo_miss hn s ht e, atKey_put_other (fun he => e (kl_inj hx hy hz (by omega) (by omega) (by omega) he))]
      exact h.1 x y z hx hy hz
  · rw [atKey_put_other (fun he => hno (by obtain ⟨rfl, rfl, rfl⟩ := kl_inj hx hy hz (by omega) (by omega) (by omega) he; omega))]
    exact h.2 x y z hx hy hz hno zd
set_option maxRecDepth 100000 in
theorem signOfByte_any (b : UInt8) (w : World) : Calls Tryz.prog 156 #[.int .u8 b.toNat] w fun e w' => e = .returned (.int .i64 (sgn1 b)) ∧ w' = w := by
  by_cases h : b = 43
  · subst h
    go_enter Tryz.func156, Tryz.ntmps156
    go_wp2
    go_ret
    exact ⟨rfl, rfl⟩
  · have HE : Hid (sgn1 b = -1) := Lib.hid (by unfold sgn1; simp [h])
    have ht : ((b.toNat : Int) == 43) = false := by
      have : (b.toNat : Int) ≠ ((43 : UInt8).toNat : Int) := fun e => h (UInt8.toNat_inj.1 (by omega))
      simpa using this
    go_enter Tryz.func156, Tryz.ntmps156
    go_wp2
    go_ret
    exact ⟨ret_int HE.out.symm, rfl⟩
theorem ownsMap_made (w : World) : (w.alloc (.map #[] 0)).ownsMap Tryz.prog 99 (plainElem (H := Unit) Tryz.prog 3) w.heap.size 0 (.map []) := World.ownsMap_made _ _ _ _
set_option maxHeartbeats 800000 in
set_option maxRecDepth 100000 in
theorem mapOfK_no (n : Int) (s : ByteArray) (hs : s.size ≤ 9223372036854775807) (h : arB n s.data.toList = false) (w : World) :
    Calls Tryz.prog 123 #[sg n s] w fun e w' => ∃ b, e = .returned (.map (some b)) ∧ w.heap.size ≤ b ∧ MapK w' b (lookS n s.data.toList) ∧ Below w.heap.size w w' := by
  have HA := Lib.hid (fun W => implAre_sg n s hs W)
  rw [h] at HA
  have hmm := @run_makeMap Tryz.prog
  have HF := Lib.hid (lookS_no h)
  go_enter Tryz.func123, Tryz.ntmps123
  go_wp2_with fail
  refine (HA.out _).mono ?_
  rintro e w1 ⟨rfl, hb1⟩
  have HO := Lib.hid (ownsMap_made (w.alloc (.cells #[.int .i64 n, .string s] 25)))
  have hbb := hb1.size
  have HM : Hid (MapK w1 (w.heap.size + 1) (lookS n s.data.toList)) := Lib.hid (by
    have h0 := HO.out
    have e : (w.alloc (.cells #[.int .i64 n, .string s] 25)).heap.size = w.heap.size + 1 := by simp
    rw [e] at h0
    refine MapK.on ⟨⟨0, _, by omega, h0, fun x y z _ _ _ => by rw [HF.out]; rfl, fun x y z _ _ _ _ zd => rfl⟩, fun x y z => by rw [HF.out]; omega⟩ hb1)
  have HB : Hid (Below w.heap.size w w1) := Lib.hid ((((Below.refl _ _).alloc (Nat.le_refl _) (.cells #[.int .i64 n, .string s] 25)).alloc (by simp) (.map #[] 0)).trans (hb1.mono (by simp; omega)))
  go_wp2
  go_ret
  exact ⟨_, rfl, by simp, HM.out, HB.out⟩
/-- A region whose head only reads, then one forced tail: the drawn world by a name. -/
theorem region_tail {P : Program} {id : Nat} {Q : Exit → Act → World → Prop} {a : Act} {w : World} {l : List Oper} (n : Nat) (hm : P.follows .mixedOrders = true) (hB : Region.lexTailB .any l.toArray n = true)
    (h : ∀ W, W = w.drew → wpStill P l.toArray W (fun a' => wpList P l.toArray Q (l.drop n) a' W) (l.take n) a) : (Code.region id l.toArray true).wp P Q a w := wp_region_still_tail n hm hB (h _ rfl)
theorem box3_made (w : World) (x y z : Int) (t : TypeId) : (w.alloc (.cells #[.int .i64 x, .int .i64 y, .int .i64 z] t)).cell? ⟨w.heap.size, 0, none⟩ = some (.int .i64 x) ∧ (w.alloc (.cells #[.int .i64 x, .int .i64 y, .int .i64 z] t)).cell? ⟨w.heap.size, 1, none⟩ = some (.int .i64 y) ∧ (w.alloc (.cells #[.int .i64 x, .int .i64 y, .int .i64 z] t)).cell? ⟨w.heap.size, 2, none⟩ = some (.int .i64 z) := by
  refine ⟨?_, ?_, ?_⟩ <;> go_simp
/-- The cells of a row of threes. -/
def At3 (w : World) (g : Nat) (xs : List T3) : Prop := ∀ (j : Nat) t, xs[j]? = some t → w.cell? ⟨g, j * 3, none⟩ = some (.int .i64 t.1) ∧ w.cell? ⟨g, j * 3 + 1, none⟩ = some (.int .i64 t.2.1) ∧ w.cell? ⟨g, j * 3 + 2, none⟩ = some (.int .i64 t.2.2)
theorem owns3_row {w : World} {B : Nat} {v : Value} {xs : List T3} (h : Owns3 w B v xs) (h0 : 0 < xs.length) : ∃ g c, v = .slice (some ⟨g, 0, none⟩) xs.length c ∧ B ≤ g ∧ g < w.heap.size ∧ At3 w g xs := by
  have hlt := World.ownsRow.lt h
  obtain ⟨-, ⟨rfl, h1⟩ | ⟨g, cap, cur, hv, hB, hh, hr⟩⟩ := id h
  · omega
  · subst hv
    have hc := World.ownsRow.cells h (g := g) rfl
    refine ⟨g, cap, rfl, hB, (hlt g rfl).2, fun j t hj => ?_⟩
    obtain ⟨e0, e1, e2⟩ := c3_get xs j t hj
    have r0 := hc _ _ e0
    have r1 := hc _ _ e1
    have r2 := hc _ _ e2
    rw [WideShapes.add_plain, Nat.zero_add] at r0 r1 r2
    exact ⟨r0, r1, r2⟩
theorem At3.block {w w' : World} {g : Nat} {xs : List T3} (h : At3 w g xs) (e : w'.heap[g]? = w.heap[g]?) : At3 w' g xs := fun j t hj => by
  have c := fun o => World.cell?_of_block (a := ⟨g, o, none⟩) e
  rw [c, c, c]
  exact h j t hj
theorem At3.on {w w' : World} {B g : Nat} {xs : List T3} (h : At3 w g xs) (hb : Below B w w') (hB : g < B) : At3 w' g xs := h.block (hb.block g hB)
theorem Box.block {w0 : World} {n : Int} {s : ByteArray} {w w' : World} (h : Box w0 n s w) (e : w'.heap[w0.heap.size]? = w.heap[w0.heap.size]?) (hb : Below w0.heap.size w0 w') : Box w0 n s w' :=
  ⟨by rw [World.cell?_of_block (a := ⟨w0.heap.size, 0, none⟩) e]; exact h.1, by rw [World.cell?_of_block (a := ⟨w0.heap.size, 1, none⟩) e]; exact h.2.1, hb⟩
/-- All that the loop needs of the memory. -/
structure MapSt (w0 : World) (n : Nat) (s : ByteArray) (g p : Nat) (wr : World) : Prop where
  own : ∃ D, wr.ownsMap Tryz.prog 99 (plainElem (H := Unit) Tryz.prog 3) (w0.heap.size + 1) p D ∧ MapTo n s.data.toList p D
  box : Box w0 n s wr
  at3 : At3 wr g (threes n)
  lt : g < wr.heap.size
theorem MapSt.step {w0 : World} {n : Nat} {s : ByteArray} {g p : Nat} {wr w3 : World} (h : MapSt w0 n s g p wr) {o : Obj} {D : DataW Unit} (hgw : w0.heap.size + 1 < g) (hg : (wr.alloc o).drew.grownBy w3 (some (w0.heap.size + 1)))
    (ho : w3.ownsMap Tryz.prog 99 (plainElem (H := Unit) Tryz.prog 3) (w0.heap.size + 1) (p + 1) D) (hD : MapTo n s.data.toList (p + 1) D) : MapSt w0 n s g (p + 1) w3 := by
  have hlt := h.lt
  have hbx := h.box.alloc o
  have hsz : w0.heap.size < wr.heap.size := by omega
  have e1 : w3.heap[w0.heap.size]? = (wr.alloc o).heap[w0.heap.size]? := hg.block _ (by simp [World.drew]; omega) (by simp)
  have e2 : w3.heap[g]? = (wr.alloc o).heap[g]? := hg.block _ (by simp [World.drew]; omega) (by simp; omega)
  have hs3 : wr.heap.size + 1 ≤ w3.heap.size := by have := hg.size; simpa [World.drew] using this
  have hal := (Below.refl wr.heap.size wr).alloc (Nat.le_refl _) o
  exact ⟨⟨D, ho, hD⟩, hbx.block e1 (hbx.2.2.drew.grown hg hbx.2.2.size (by intro q hq; cases hq; omega)), (h.at3.on hal hlt).block e2, by omega⟩
set_option maxHeartbeats 1600000 in
set_option maxRecDepth 100000 in
theorem mapOfK_yes (n : Nat) (s : ByteArray) (h : arB n s.data.toList = true) (w : World) :
    Calls Tryz.prog 123 #[sg n s] w fun e w' => ∃ b, e = .returned (.map (some b)) ∧ w.heap.size ≤ b ∧ MapK w' b (lookS n s.data.toList) ∧ Below w.heap.size w w' := by
  obtain ⟨h3, h7, hl, hall⟩ := arB_yes h
  have h3 : 3 ≤ n := by omega
  have h7 : n ≤ 7 := by omega
  have hlen : s.data.toList.length = s.size := by simp
  have hsz : s.size = cnt n := by simpa using hl
  have hc35 := cnt_le h7
  have HA := Lib.hid (fun W => implAre_sg n s (by omega) W)
  rw [h] at HA
  have HL : Hid (lookS n s.data.toList = look n s.data.toList) := Lib.hid (lookS_yes h)
  have hmm := @run_makeMap Tryz.prog
  have HT := Lib.hid (threes_length h7)
  clear hall hl hlen h
  go_enter Tryz.func123, Tryz.ntmps123
  go_wp2_with fail
  refine (HA.out _).mono ?_
  rintro e w1 ⟨rfl, hb1⟩
  have HO := Lib.hid (ownsMap_made (w.alloc (.cells #[.int .i64 n, .string s] 25)))
  have hbb := hb1.size
  have HM : Hid (w1.ownsMap Tryz.prog 99 (plainElem (H := Unit) Tryz.prog 3) (w.heap.size + 1) 0 (.map [])) := Lib.hid (by
    have h0 := HO.out
    have e : (w.alloc (.cells #[.int .i64 n, .string s] 25)).heap.size = w.heap.size + 1 := by simp
    rw [e] at h0
    exact World.ownsMap.kept h0 (row := none) ⟨hb1.os, hb1.tape, hb1.output, hb1.size, fun k hk _ => hb1.block k hk⟩ (by simp))
  have HX : Hid (Box w n s w1) := Lib.hid (((box_made w n s 25).alloc (.map #[] 0)).on hb1)
  clear HO
  obtain ⟨c0, c1, B1⟩ := HX.out
  go_wp2_with fail
  refine (threesOf_any n h3 h7 _).mono ?_
  rintro e w2 ⟨v, rfl, hv, hb2⟩
  have hcp : 0 < cnt n := by rcases (by omega : n = 3 ∨ n = 4 ∨ n = 5 ∨ n = 6 ∨ n = 7) with rfl | rfl | rfl | rfl | rfl <;> decide
  obtain ⟨g, c, rfl, hg1, hg2, h3a⟩ := owns3_row hv (by rw [HT.out]; exact hcp)
  rw [HT.out]
  have HS : Hid (MapSt w n s g 0 w2) := Lib.hid ⟨⟨_, World.ownsMap.kept HM.out (row := none) ⟨hb2.os, hb2.tape, hb2.output, hb2.size, fun k hk _ => hb2.block k hk⟩ (by simp), mapTo_zero n _⟩, HX.out.on hb2, h3a, hg2⟩
  have hgw : w.heap.size + 1 < g := by simp at hbb; omega
  clear hv h3a c0 c1 B1 HM HX hg1 hg2 hbb hb1 hb2 hmm
  go_wp2
  go_loopw [15] (fun i wr => ∃ p : Nat, p ≤ cnt n ∧ i = .int .i64 p ∧ Hid (MapSt w n s g p wr)) (fun i _ => cnt n - (intOf i).toNat)
  case atStart => exact ⟨0, Nat.zero_le _, rfl, HS⟩
  case round =>
    obtain ⟨p, hp, rfl, HS⟩ := hrel
    by_cases hlt : p < cnt n
    · obtain ⟨t, ht⟩ : ∃ t, (threes n)[p]? = some t := ⟨_, List.getElem?_eq_getElem (by rw [HT.out]; exact hlt)⟩
      obtain ⟨x0, x1, x2⟩ := HS.out.at3 p t ht
      go_wp2
      obtain ⟨D, hown, hD⟩ := HS.out.own
      have hps : p < s.size := by omega
      have y1 := (HS.out.box.alloc (.cells #[.int .i64 t.1, .int .i64 t.2.1, .int .i64 t.2.2] 99)).2.1
      obtain ⟨t1, t2, t3⟩ := threes_mem h7 (List.mem_of_getElem? ht)
      have hsp : s.data.toList.getD p 0 = s[p] := by rw [List.getD_eq_getElem?_getD, List.getElem?_eq_getElem (by simpa using hps)]; rfl
      have HD := Lib.hid (mapTo_step h7 hown hD ht)
      rw [hsp] at HD
      obtain ⟨v1, v2⟩ := sgn1_bd s[p]
      have HW := Lib.hid hown
      clear hown hD ht hsp x0 x1 x2
      obtain ⟨z0, z1, z2⟩ := box3_made wr t.1 t.2.1 t.2.2 99
      refine region_tail 7 (by kernel_rfl) (by kernel_rfl) ?_
      intro W hW
      have g1 : W.cell? ⟨w.heap.size, 1, none⟩ = some (.string s) := by rw [hW]; exact y1
      have g2 : W.cell? ⟨wr.heap.size, 0, none⟩ = some (.int .i64 t.1) := by rw [hW]; exact z0
      have g3 : W.cell? ⟨wr.heap.size, 1, none⟩ = some (.int .i64 t.2.1) := by rw [hW]; exact z1
      have g4 : W.cell? ⟨wr.heap.size, 2, none⟩ = some (.int .i64 t.2.2) := by rw [hW]; exact z2
      have HOW : Hid (W.ownsMap Tryz.prog 99 (plainElem (H := Unit) Tryz.prog 3) (w.heap.size + 1) p D) := Lib.hid (by rw [hW]; exact (HW.out.alloc _).drew)
      have HWW := Lib.hid hW
      clear hW y1 z0 z1 z2
      simp only [List.take_succ_cons, List.take_zero, List.drop_succ_cons, List.drop_zero]
      still_step
      still_step
      still_step
      still_step
      still_step
      still_step
      still_call (signOfByte_any _ _)
      refine wpStill_nil ?_
      change wpList _ _ _ _ _ W
      have hnp : p < maxLen := by simp only [maxLen]; omega
      have hwf : (Lit.int .i64 (sgn1 s[p])).wf = true := WalkArith.wf_i64 (by omega)
      go_wp2_with (at_mapUpdate; refine wpList_mapUpdate_own _ rfl _ _ _ 73 rfl 99 3 law Tryz.underlying73 _ _ p D rfl HOW.out hnp _ _ _ rfl rfl (key_three (by omega) (by omega) (by omega)) _ [] (plainElem_int Tryz.underlying3 hwf) ?_)
      intro w3 hown3 hg3
      have HN : Hid (MapSt w n s g (p + 1) w3) := Lib.hid (HS.out.step hgw (by rw [← HWW.out]; exact hg3) hown3 HD.out)
      clear hown3 hg3
      go_wp2
      exact ⟨⟨p + 1, by omega, by go_num, HN⟩, by simp only [intOf]; omega⟩
    · obtain rfl : p = cnt n := by omega
      have HR : Hid (MapK wr (w.heap.size + 1) (lookS n s.data.toList) ∧ Below w.heap.size w wr) := by
        obtain ⟨D, ho, hD⟩ := HS.out.own
        refine Lib.hid ⟨⟨⟨_, D, hc35, ho, fun x y z hx hy hz => ?_, hD.2⟩, fun x y z => ?_⟩, HS.out.box.2.2⟩
        · rw [hD.1 x y z hx hy hz, lookTo_all h7, HL.out]
        · rw [HL.out]; exact look_bd _ _ _ _ _
      go_wp2
      go_ret
      exact ⟨_, rfl, by omega, HR.out.1, HR.out.2⟩
theorem mapOf_k (n : Int) (s : ByteArray) (hs : s.size ≤ 9223372036854775807) (w : World) :
    Calls Tryz.prog 123 #[sg n s] w fun e w' => ∃ b, e = .returned (.map (some b)) ∧ w.heap.size ≤ b ∧ MapK w' b (lookS n s.data.toList) ∧ Below w.heap.size w w' := by
  cases h : arB n s.data.toList
  · exact mapOfK_no n s hs h w
  · obtain ⟨h3, -⟩ := arB_yes h
    obtain ⟨m, rfl⟩ : ∃ m : Nat, n = m := ⟨n.toNat, by omega⟩
    exact mapOfK_yes m s h w
theorem mapOf_sg (n : Int) (s : ByteArray) (hs : s.size ≤ 9223372036854775807) (w : World) :
    Calls Tryz.prog 123 #[sg n s] w fun e w' => ∃ b, e = .returned (.map (some b)) ∧ w.heap.size ≤ b ∧ MapIs w' b (lookS n s.data.toList) ∧ Below w.heap.size w w' :=
  (mapOf_k n s hs w).mono fun _ _ ⟨b, he, h1, h2, h3⟩ => ⟨b, he, h1, h2.is, h3⟩
end Go.Proofs.YtinlnafkmoabbaaGreatDoor.Sg
/- SignAt, as impl and spec answer it. -/
namespace Go.Proofs.YtinlnafkmoabbaaGreatDoor.Sg
open Go.RowKit Pt Go.Maps
theorem srt_facts (i j k : Int) : (srt i j k).1 ≤ (srt i j k).2.1 ∧ (srt i j k).2.1 ≤ (srt i j k).2.2.1 ∧ ((srt i j k).1 < (srt i j k).2.1 → (srt i j k).2.1 < (srt i j k).2.2.1 → i ≠ j ∧ j ≠ k ∧ i ≠ k) ∧ ((srt i j k).1 ≤ i ∧ (srt i j k).1 ≤ j ∧ (srt i j k).1 ≤ k) ∧ (i ≤ (srt i j k).2.2.1 ∧ j ≤ (srt i j k).2.2.1 ∧ k ≤ (srt i j k).2.2.1) := by
  unfold srt
  by_cases h1 : j < i
  · by_cases h2 : k < i
    · by_cases h3 : k < j
      · simp [h1, h2, h3]; omega
      · simp [h1, h2, h3]; omega
    · have h3 : ¬ i < j := by omega
      simp [h1, h2, h3]; omega
  · by_cases h2 : k < j
    · by_cases h3 : k < i
      · simp [h1, h2, h3]; omega
      · simp [h1, h2, h3]; omega
    · simp [h1, h2]; omega
theorem sgnF_bd {f : Int → Int → Int → Int} (h : ∀ x y z, -1 ≤ f x y z ∧ f x y z ≤ 1) (i j k : Int) : -1 ≤ sgnF f i j k ∧ sgnF f i j k ≤ 1 := by
  have hp : (srt i j k).2.2.2 = 1 ∨ (srt i j k).2.2.2 = -1 := by
    unfold srt
    by_cases h1 : j < i
    · by_cases h2 : k < i
      · by_cases h3 : k < j
        · simp [h1, h2, h3]
        · simp [h1, h2, h3]
      · have h3 : ¬ i < j := by omega
        simp [h1, h2, h3]
    · by_cases h2 : k < j
      · by_cases h3 : k < i
        · simp [h1, h2, h3]
        · simp [h1, h2, h3]
      · simp [h1, h2]
  have := h (srt i j k).1 (srt i j k).2.1 (srt i j k).2.2.1
  unfold sgnF
  rcases hp with hp | hp <;> rw [hp] <;> omega
theorem sgnF_zero {n : Nat} {s : List UInt8} {i j k : Int} (h : ¬ ((0 ≤ i ∧ i < n) ∧ (0 ≤ j ∧ j < n) ∧ (0 ≤ k ∧ k < n) ∧ i ≠ j ∧ j ≠ k ∧ i ≠ k)) : sgnF (look n s) i j k = 0 := by
  obtain ⟨h1, h2, h3, h4, h5⟩ := srt_facts i j k
  unfold sgnF look
  rw [if_neg (fun e => h (by have := h3 e.2.1 e.2.2.1; omega))]
  simp
theorem sgnF_bad {n : Nat} {s : List UInt8} {i j k : Int} (h : arB n s = true) (hb : ¬ ((0 ≤ i ∧ i < n) ∧ (0 ≤ j ∧ j < n) ∧ (0 ≤ k ∧ k < n) ∧ i ≠ j ∧ j ≠ k ∧ i ≠ k)) : sgnF (lookS n s) i j k = 0 := by
  rw [lookS_yes h]
  exact sgnF_zero hb
/-- The sign of three by the byte that stands at them in order. -/
theorem sgnF_byte {n : Nat} {s : ByteArray} {i j k : Int} {x y z : Nat} {p : Int} (h : arB n s.data.toList = true) (hs : srt i j k = ((x : Int), (y : Int), (z : Int), p)) (h1 : x < y) (h2 : y < z) (h3 : z < n) :
    ∃ hq : idx n x y z < s.size, sgnF (lookS n s.data.toList) i j k = (if s[idx n x y z] = 45 then -p else p) := by
  obtain ⟨_, h7, hl, hall⟩ := arB_yes h
  have h7 : n ≤ 7 := by omega
  have hlt := idx_lt h7 h1 h2 h3
  have hsz : s.size = cnt n := by simpa using hl
  have hq : idx n x y z < s.size := by omega
  refine ⟨hq, ?_⟩
  rw [sgnF_of hs, lookS_yes h]
  unfold look
  simp only [Int.toNat_natCast]
  rw [if_pos (by omega)]
  have hg : s.data.toList.getD (idx n x y z) 0 = s[idx n x y z] := by rw [List.getD_eq_getElem?_getD, List.getElem?_eq_getElem (by simpa using hq)]; rfl
  rw [hg]
  rcases hall _ (byte_mem hq) with e | e <;> rw [e] <;> simp [sgn1]
theorem neI45 {a : UInt8} (h : ¬ a = 45) : ((a.toNat : Int) == 45) = false := by
  have : (a.toNat : Int) ≠ ((45 : UInt8).toNat : Int) := fun e => h (UInt8.toNat_inj.1 (by omega))
  simpa using this
set_option maxHeartbeats 1600000 in
set_option maxRecDepth 100000 in
theorem l3At_any (n : Nat) (s : ByteArray) (i j k : Nat) (h : arB n s.data.toList = true) (hi : i < n) (hj : j < n) (hk : k < n) (hij : i ≠ j) (hjk : j ≠ k) (hik : i ≠ k) (w : World) :
    Calls Tryz.prog 147 #[sg n s, .int .i64 i, .int .i64 j, .int .i64 k] w fun e w' => e = .returned (.int .i64 (sgnF (lookS n s.data.toList) i j k)) ∧ Below w.heap.size w w' := by
  obtain ⟨_, h7, -, -⟩ := arB_yes h
  have h7 : n ≤ 7 := by omega
  by_cases h1 : j < i
  · by_cases h2 : k < i
    · by_cases h3 : k < j
      · obtain ⟨hq, hE⟩ := sgnF_byte (i := i) (j := j) (k := k) (x := k) (y := j) (z := i) (p := -1) h (by unfold srt; simp [h1, h2, h3]; try omega) h3 h1 hi
        have HI : Hid (∀ W, Calls Tryz.prog 173 #[.int .i64 n, .int .i64 k, .int .i64 j, .int .i64 i] W fun e w' => e = .returned (.int .i64 (idx n k j i : Nat)) ∧ w' = W) := Lib.hid (fun W => (index_any n k j i h7 h3 h1 hi W).mono fun _ _ ⟨a, b⟩ => ⟨a, b.symm⟩)
        generalize idx n k j i = q at hq hE HI
        have HE := Lib.hid hE
        by_cases hb : s[q] = 45
        · have ht : ((s[q].toNat : Int) == 45) = true := by rw [hb]; rfl
          have HR : Hid (sgnF (lookS n s.data.toList) i j k = 1) := Lib.hid (by rw [HE.out, if_pos hb]; try rfl)
          clear hE hb h
          go_enter Tryz.func147, Tryz.ntmps147
          go_wp2
          go_quiet ((go_at_call 173; exact Calls.quiet_of_same (HI.out _)))
          go_wp2
          go_ret
          exact ⟨ret_int HR.out.symm, drewN_below ((Below.refl _ _).alloc (Nat.le_refl _) _) _⟩
        · have ht : ((s[q].toNat : Int) == 45) = false := neI45 hb
          have HR : Hid (sgnF (lookS n s.data.toList) i j k = -1) := Lib.hid (by rw [HE.out, if_neg hb])
          clear hE hb h
          go_enter Tryz.func147, Tryz.ntmps147
          go_wp2
          go_quiet ((go_at_call 173; exact Calls.quiet_of_same (HI.out _)))
          go_wp2
          go_ret
          exact ⟨ret_int HR.out.symm, drewN_below ((Below.refl _ _).alloc (Nat.le_refl _) _) _⟩
      · obtain ⟨hq, hE⟩ := sgnF_byte (i := i) (j := j) (k := k) (x := j) (y := k) (z := i) (p := 1) h (by unfold srt; simp [h1, h2, h3]; try omega) (by omega) h2 hi
        have HI : Hid (∀ W, Calls Tryz.prog 173 #[.int .i64 n, .int .i64 j, .int .i64 k, .int .i64 i] W fun e w' => e = .returned (.int .i64 (idx n j k i : Nat)) ∧ w' = W) := Lib.hid (fun W => (index_any n j k i h7 (by omega) h2 hi W).mono fun _ _ ⟨a, b⟩ => ⟨a, b.symm⟩)
        generalize idx n j k i = q at hq hE HI
        have HE := Lib.hid hE
        by_cases hb : s[q] = 45
        · have ht : ((s[q].toNat : Int) == 45) = true := by rw [hb]; rfl
          have HR : Hid (sgnF (lookS n s.data.toList) i j k = -1) := Lib.hid (by rw [HE.out, if_pos hb]; try rfl)
          clear hE hb h
          go_enter Tryz.func147, Tryz.ntmps147
          go_wp2
          go_quiet ((go_at_call 173; exact Calls.quiet_of_same (HI.out _)))
          go_wp2
          go_ret
          exact ⟨ret_int HR.out.symm, drewN_below ((Below.refl _ _).alloc (Nat.le_refl _) _) _⟩
        · have ht : ((s[q].toNat : Int) == 45) = false := neI45 hb
          have HR : Hid (sgnF (lookS n s.data.toList) i j k = 1) := Lib.hid (by rw [HE.out, if_neg hb])
          clear hE hb h
          go_enter Tryz.func147, Tryz.ntmps147
          go_wp2
          go_quiet ((go_at_call 173; exact Calls.quiet_of_same (HI.out _)))
          go_wp2
          go_ret
          exact ⟨ret_int HR.out.symm, drewN_below ((Below.refl _ _).alloc (Nat.le_refl _) _) _⟩
    · have h3 : ¬ i < j := by omega
      obtain ⟨hq, hE⟩ := sgnF_byte (i := i) (j := j) (k := k) (x := j) (y := i) (z := k) (p := -1) h (by unfold srt; simp [h1, h2, h3]; try omega) h1 (by omega) hk
      have HI : Hid (∀ W, Calls Tryz.prog 173 #[.int .i64 n, .int .i64 j, .int .i64 i, .int .i64 k] W fun e w' => e = .returned (.int .i64 (idx n j i k : Nat)) ∧ w' = W) := Lib.hid (fun W => (index_any n j i k h7 h1 (by omega) hk W).mono fun _ _ ⟨a, b⟩ => ⟨a, b.symm⟩)
      generalize idx n j i k = q at hq hE HI
      have HE := Lib.hid hE
      by_cases hb : s[q] = 45
      · have ht : ((s[q].toNat : Int) == 45) = true := by rw [hb]; rfl
        have HR : Hid (sgnF (lookS n s.data.toList) i j k = 1) := Lib.hid (by rw [HE.out, if_pos hb]; try rfl)
        clear hE hb h
        go_enter Tryz.func147, Tryz.ntmps147
        go_wp2
        go_quiet ((go_at_call 173; exact Calls.quiet_of_same (HI.out _)))
        go_wp2
        go_ret
        exact ⟨ret_int HR.out.symm, drewN_below ((Below.refl _ _).alloc (Nat.le_refl _) _) _⟩
      · have ht : ((s[q].toNat : Int) == 45) = false := neI45 hb
        have HR : Hid (sgnF (lookS n s.data.toList) i j k = -1) := Lib.hid (by rw [HE.out, if_neg hb])
        clear hE hb h
        go_enter Tryz.func147, Tryz.ntmps147
        go_wp2
        go_quiet ((go_at_call 173; exact Calls.quiet_of_same (HI.out _)))
        go_wp2
        go_ret
        exact ⟨ret_int HR.out.symm, drewN_below ((Below.refl _ _).alloc (Nat.le_refl _) _) _⟩
  · by_cases h2 : k < j
    · by_cases h3 : k < i
      · obtain ⟨hq, hE⟩ := sgnF_byte (i := i) (j := j) (k := k) (x := k) (y := i) (z := j) (p := 1) h (by unfold srt; simp [h1, h2, h3]; try omega) h3 (by omega) hj
        have HI : Hid (∀ W, Calls Tryz.prog 173 #[.int .i64 n, .int .i64 k, .int .i64 i, .int .i64 j] W fun e w' => e = .returned (.int .i64 (idx n k i j : Nat)) ∧ w' = W) := Lib.hid (fun W => (index_any n k i j h7 h3 (by omega) hj W).mono fun _ _ ⟨a, b⟩ => ⟨a, b.symm⟩)
        generalize idx n k i j = q at hq hE HI
        have HE := Lib.hid hE
        by_cases hb : s[q] = 45
        · have ht : ((s[q].toNat : Int) == 45) = true := by rw [hb]; rfl
          have HR : Hid (sgnF (lookS n s.data.toList) i j k = -1) := Lib.hid (by rw [HE.out, if_pos hb]; try rfl)
          clear hE hb h
          go_enter Tryz.func147, Tryz.ntmps147
          go_wp2
          go_quiet ((go_at_call 173; exact Calls.quiet_of_same (HI.out _)))
          go_wp2
          go_ret
          exact ⟨ret_int HR.out.symm, drewN_below ((Below.refl _ _).alloc (Nat.le_refl _) _) _⟩
        · have ht : ((s[q].toNat : Int) == 45) = false := neI45 hb
          have HR : Hid (sgnF (lookS n s.data.toList) i j k = 1) := Lib.hid (by rw [HE.out, if_neg hb])
          clear hE hb h
          go_enter Tryz.func147, Tryz.ntmps147
          go_wp2
          go_quiet ((go_at_call 173; exact Calls.quiet_of_same (HI.out _)))
          go_wp2
          go_ret
          exact ⟨ret_int HR.out.symm, drewN_below ((Below.refl _ _).alloc (Nat.le_refl _) _) _⟩
      · obtain ⟨hq, hE⟩ := sgnF_byte (i := i) (j := j) (k := k) (x := i) (y := k) (z := j) (p := -1) h (by unfold srt; simp [h1, h2, h3]; try omega) (by omega) h2 hj
        have HI : Hid (∀ W, Calls Tryz.prog 173 #[.int .i64 n, .int .i64 i, .int .i64 k, .int .i64 j] W fun e w' => e = .returned (.int .i64 (idx n i k j : Nat)) ∧ w' = W) := Lib.hid (fun W => (index_any n i k j h7 (by omega) h2 hj W).mono fun _ _ ⟨a, b⟩ => ⟨a, b.symm⟩)
        generalize idx n i k j = q at hq hE HI
        have HE := Lib.hid hE
        by_cases hb : s[q] = 45
        · have ht : ((s[q].toNat : Int) == 45) = true := by rw [hb]; rfl
          have HR : Hid (sgnF (lookS n s.data.toList) i j k = 1) := Lib.hid (by rw [HE.out, if_pos hb]; try rfl)
          clear hE hb h
          go_enter Tryz.func147, Tryz.ntmps147
          go_wp2
          go_quiet ((go_at_call 173; exact Calls.quiet_of_same (HI.out _)))
          go_wp2
          go_ret
          exact ⟨ret_int HR.out.symm, drewN_below ((Below.refl _ _).alloc (Nat.le_refl _) _) _⟩
        · have ht : ((s[q].toNat : Int) == 45) = false := neI45 hb
          have HR : Hid (sgnF (lookS n s.data.toList) i j k = -1) := Lib.hid (by rw [HE.out, if_neg hb])
          clear hE hb h
          go_enter Tryz.func147, Tryz.ntmps147
          go_wp2
          go_quiet ((go_at_call 173; exact Calls.quiet_of_same (HI.out _)))
          go_wp2
          go_ret
          exact ⟨ret_int HR.out.symm, drewN_below ((Below.refl _ _).alloc (Nat.le_refl _) _) _⟩
    · obtain ⟨hq, hE⟩ := sgnF_byte (i := i) (j := j) (k := k) (x := i) (y := j) (z := k) (p := 1) h (by unfold srt; simp [h1, h2]; try omega) (by omega) (by omega) hk
      have HI : Hid (∀ W, Calls Tryz.prog 173 #[.int .i64 n, .int .i64 i, .int .i64 j, .int .i64 k] W fun e w' => e = .returned (.int .i64 (idx n i j k : Nat)) ∧ w' = W) := Lib.hid (fun W => (index_any n i j k h7 (by omega) (by omega) hk W).mono fun _ _ ⟨a, b⟩ => ⟨a, b.symm⟩)
      generalize idx n i j k = q at hq hE HI
      have HE := Lib.hid hE
      by_cases hb : s[q] = 45
      · have ht : ((s[q].toNat : Int) == 45) = true := by rw [hb]; rfl
        have HR : Hid (sgnF (lookS n s.data.toList) i j k = -1) := Lib.hid (by rw [HE.out, if_pos hb]; try rfl)
        clear hE hb h
        go_enter Tryz.func147, Tryz.ntmps147
        go_wp2
        go_quiet ((go_at_call 173; exact Calls.quiet_of_same (HI.out _)))
        go_wp2
        go_ret
        exact ⟨ret_int HR.out.symm, drewN_below ((Below.refl _ _).alloc (Nat.le_refl _) _) _⟩
      · have ht : ((s[q].toNat : Int) == 45) = false := neI45 hb
        have HR : Hid (sgnF (lookS n s.data.toList) i j k = 1) := Lib.hid (by rw [HE.out, if_neg hb])
        clear hE hb h
        go_enter Tryz.func147, Tryz.ntmps147
        go_wp2
        go_quiet ((go_at_call 173; exact Calls.quiet_of_same (HI.out _)))
        go_wp2
        go_ret
        exact ⟨ret_int HR.out.symm, drewN_below ((Below.refl _ _).alloc (Nat.le_refl _) _) _⟩
theorem inB_range {i n : Int} (h : inB i 0 (n - 1) = true) : 0 ≤ i ∧ i < n := by have := inB_mem h; omega
theorem inB_norange {i n : Int} (h : inB i 0 (n - 1) = false) : ¬ (0 ≤ i ∧ i < n) := fun e => by
  have := inB_yes (x := i) (lo := 0) (hi := n - 1) e.1 (by omega)
  rw [this] at h; cases h
end Go.Proofs.YtinlnafkmoabbaaGreatDoor.Sg
/- The exchange rule on plain functions: the fours of n elements in their order, breaks, the first break, circuits, reversed signs. -/
namespace Go.Proofs.YtinlnafkmoabbaaGreatDoor.Sg
abbrev T4 := Nat × Nat × Nat × Nat
/-- The first m fours that begin with three elements. -/
def row4 (t : T3) (m : Nat) : List T4 := (List.range' (t.2.2 + 1) m).map fun l => (t.1, t.2.1, t.2.2, l)
/-- The fours that begin with the threes before number p. -/
def foursB (n p : Nat) : List T4 := ((threes n).take p).flatMap fun t => row4 t (n - (t.2.2 + 1))
def fours (n : Nat) : List T4 := (threes n).flatMap fun t => row4 t (n - (t.2.2 + 1))
theorem row4_succ (t : T3) (m : Nat) : row4 t (m + 1) = row4 t m ++ [(t.1, t.2.1, t.2.2, t.2.2 + 1 + m)] := by
  unfold row4; rw [List.range'_concat]; simp
theorem row4_length (t : T3) (m : Nat) : (row4 t m).length = m := by unfold row4; simp
theorem foursB_zero (n : Nat) : foursB n 0 = [] := by unfold foursB; simp
theorem foursB_succ {n p : Nat} {t : T3} (ht : (threes n)[p]? = some t) : foursB n (p + 1) = foursB n p ++ row4 t (n - (t.2.2 + 1)) := by
  unfold foursB; rw [List.take_add_one, ht]; simp
theorem foursB_all {n : Nat} (h7 : n ≤ 7) : foursB n (cnt n) = fours n := by
  unfold foursB fours; rw [List.take_of_length_le (by rw [threes_length h7]; omega)]
theorem foursB_len0 : ∀ n, n < 8 → ∀ p, p < 36 → (foursB n p).length ≤ 35 := by decide +kernel
theorem foursB_len {n p : Nat} (h7 : n ≤ 7) (hp : p ≤ cnt n) : (foursB n p).length ≤ 35 := foursB_len0 n (by omega) p (by have := cnt_le h7; omega)
theorem fours_len {n : Nat} (h7 : n ≤ 7) : (fours n).length ≤ 35 := by rw [← foursB_all h7]; exact foursB_len h7 (Nat.le_refl _)
theorem fours_mem0 : ∀ n, n < 8 → ∀ t ∈ fours n, t.1 < t.2.1 ∧ t.2.1 < t.2.2.1 ∧ t.2.2.1 < t.2.2.2 ∧ t.2.2.2 < n := by decide +kernel
theorem fours_mem {n : Nat} (hn : n ≤ 7) {t : T4} (h : t ∈ fours n) : t.1 < t.2.1 ∧ t.2.1 < t.2.2.1 ∧ t.2.2.1 < t.2.2.2 ∧ t.2.2.2 < n := fours_mem0 n (by omega) t h
theorem fours_has0 : ((List.range 8).all fun n => (List.range n).all fun l => (List.range l).all fun k => (List.range k).all fun j => (List.range j).all fun i => (fours n).contains (i, j, k, l)) = true := by decide +kernel
theorem fours_has {n i j k l : Nat} (hn : n ≤ 7) (h1 : i < j) (h2 : j < k) (h3 : k < l) (h4 : l < n) : (i, j, k, l) ∈ fours n := by
  simpa using all_lt (all_lt (all_lt (all_lt (all_lt fours_has0 (show n < 8 by omega)) h4) h3) h2) h1
/-- Is a four ahead of another one? -/
def Lt4 (b c d e b' c' d' e' : Nat) : Prop := b < b' ∨ b = b' ∧ (c < c' ∨ c = c' ∧ (d < d' ∨ d = d' ∧ e < e'))
instance (b c d e b' c' d' e' : Nat) : Decidable (Lt4 b c d e b' c' d' e') := by unfold Lt4; infer_instance
theorem fours_sorted0 : ∀ n, n < 8 → (fours n).Pairwise (fun t u => Lt4 t.1 t.2.1 t.2.2.1 t.2.2.2 u.1 u.2.1 u.2.2.1 u.2.2.2) := by decide +kernel
theorem fours_sorted {n p q : Nat} {t u : T4} (hn : n ≤ 7) (hp : (fours n)[p]? = some t) (hq : (fours n)[q]? = some u) (h : p < q) : Lt4 t.1 t.2.1 t.2.2.1 t.2.2.2 u.1 u.2.1 u.2.2.1 u.2.2.2 := by
  obtain ⟨h1, e1⟩ := List.getElem?_eq_some_iff.1 hp
  obtain ⟨h2, e2⟩ := List.getElem?_eq_some_iff.1 hq
  have := List.pairwise_iff_getElem.1 (fours_sorted0 n (by omega)) p q h1 h2 h
  rw [e1, e2] at this
  exact this
/-- Do five break the rule? -/
def brk (f : Int → Int → Int → Int) (a b c d e : Nat) : Bool := (f a b c * f a d e == f a b e * f a c d) && (f a b c * f a d e == -(f a b d) * f a c e)
def Val (n a b c d e : Nat) : Prop := a < n ∧ b < c ∧ c < d ∧ d < e ∧ e < n ∧ a ≠ b ∧ a ≠ c ∧ a ≠ d ∧ a ≠ e
/-- No five ahead of these break the rule. -/
def NoB (f : Int → Int → Int → Int) (n a b c d e : Nat) : Prop := ∀ a' b' c' d' e', Val n a' b' c' d' e' → (a' < a ∨ a' = a ∧ Lt4 b' c' d' e' b c d e) → brk f a' b' c' d' e' = false
/-- The first five that break the rule. -/
def IsF (f : Int → Int → Int → Int) (n : Nat) (xs : List Int) : Prop :=
  (xs = [] ∧ NoB f n n 0 0 0 0) ∨ ∃ a b c d e : Nat, xs = [(a : Int), (b : Int), (c : Int), (d : Int), (e : Int)] ∧ Val n a b c d e ∧ brk f a b c d e = true ∧ NoB f n a b c d e
theorem IsF.unique {f : Int → Int → Int → Int} {n : Nat} {xs ys : List Int} (hx : IsF f n xs) (hy : IsF f n ys) : xs = ys := by
  rcases hx with ⟨rfl, h1⟩ | ⟨a, b, c, d, e, rfl, v1, b1, n1⟩ <;> rcases hy with ⟨rfl, h2⟩ | ⟨a', b', c', d', e', rfl, v2, b2, n2⟩
  · rfl
  · rw [h1 a' b' c' d' e' v2 (Or.inl v2.1)] at b2; cases b2
  · rw [h2 a b c d e v1 (Or.inl v1.1)] at b1; cases b1
  · by_cases q1 : a < a' ∨ a = a' ∧ Lt4 b c d e b' c' d' e'
    · rw [n2 a b c d e v1 q1] at b1; cases b1
    · by_cases q2 : a' < a ∨ a' = a ∧ Lt4 b' c' d' e' b c d e
      · rw [n1 a' b' c' d' e' v2 q2] at b2; cases b2
      · unfold Lt4 at q1 q2
        have : a = a' ∧ b = b' ∧ c = c' ∧ d = d' ∧ e = e' := by omega
        obtain ⟨rfl, rfl, rfl, rfl, rfl⟩ := this
        rfl
/-- Does no five break the rule? -/
def okB (f : Int → Int → Int → Int) (n : Nat) : Bool := (List.range n).all fun a => (fours n).all fun t => (a == t.1 || a == t.2.1 || a == t.2.2.1 || a == t.2.2.2) || !brk f a t.1 t.2.1 t.2.2.1 t.2.2.2
theorem okB_iff {f : Int → Int → Int → Int} {n : Nat} (hn : n ≤ 7) : okB f n = true ↔ ∀ a b c d e, Val n a b c d e → brk f a b c d e = false := by
  unfold okB
  simp only [List.all_eq_true, List.mem_range, Bool.or_eq_true, beq_iff_eq, Bool.not_eq_true']
  constructor
  · rintro h a b c d e ⟨h1, h2, h3, h4, h5, h6, h7, h8, h9⟩
    rcases h a h1 _ (fours_has hn h2 h3 h4 h5) with h | h
    · simp only at h; omega
    · exact h
  · intro h a ha t ht
    obtain ⟨h1, h2, h3, h4⟩ := fours_mem hn ht
    by_cases e : ((a = t.1 ∨ a = t.2.1) ∨ a = t.2.2.1) ∨ a = t.2.2.2
    · exact Or.inl e
    · exact Or.inr (h _ _ _ _ _ ⟨ha, h1, h2, h3, h4, by omega, by omega, by omega, by omega⟩)
theorem IsF.ok {f : Int → Int → Int → Int} {n : Nat} {xs : List Int} (hn : n ≤ 7) (h : IsF f n xs) : okB f n = xs.isEmpty := by
  rcases h with ⟨rfl, h⟩ | ⟨a, b, c, d, e, rfl, v, b1, -⟩
  · exact (okB_iff hn).2 fun a b c d e v => h a b c d e v (Or.inl v.1)
  · cases ho : okB f n
    · rfl
    · rw [(okB_iff hn).1 ho a b c d e v] at b1; cases b1
/-- A circuit's four signs, the first one 1. -/
def cir (f : Int → Int → Int → Int) (a b c d : Int) : Int × Int × Int × Int := (f b c d * f b c d, -(f a c d) * f b c d, f a b d * f b c d, -(f a b c) * f b c d)
def posC (f : Int → Int → Int → Int) (a b c d : Int) : Bool := (cir f a b c d).1 == 1 && ((cir f a b c d).2.1 == 1 && ((cir f a b c d).2.2.1 == 1 && (cir f a b c d).2.2.2 == 1))
/-- Is no circuit of one kind? -/
def acB (f : Int → Int → Int → Int) (n : Nat) : Bool := (fours n).all fun t => !posC f t.1 t.2.1 t.2.2.1 t.2.2.2
theorem acB_iff {f : Int → Int → Int → Int} {n : Nat} (hn : n ≤ 7) : acB f n = true ↔ ∀ a b c d : Nat, a < b → b < c → c < d → d < n → posC f a b c d = false := by
  unfold acB
  simp only [List.all_eq_true, Bool.not_eq_true']
  exact ⟨fun h a b c d h1 h2 h3 h4 => h _ (fours_has hn h1 h2 h3 h4), fun h t ht => by obtain ⟨h1, h2, h3, h4⟩ := fours_mem hn ht; exact h _ _ _ _ h1 h2 h3 h4⟩
/-- Is an odd number of three elements in a set? -/
def odd3 (set : Nat) (i j k : Nat) : Bool := ((set >>> i) + (set >>> j) + (set >>> k)) % 2 == 1
end Go.Proofs.YtinlnafkmoabbaaGreatDoor.Sg
/- Do five elements break the rule: impl's isBreak over a map, spec's l4Breaks. -/
namespace Go.Proofs.YtinlnafkmoabbaaGreatDoor.Sg
open Go.RowKit Pt
theorem mul_bd {x y : Int} (hx : -1 ≤ x ∧ x ≤ 1) (hy : -1 ≤ y ∧ y ≤ 1) : -1 ≤ x * y ∧ x * y ≤ 1 := by
  rcases (by omega : x = -1 ∨ x = 0 ∨ x = 1) with rfl | rfl | rfl <;> omega
abbrev fr (t : T4) : Value := .agg #[.int .i64 t.1, .int .i64 t.2.1, .int .i64 t.2.2.1, .int .i64 t.2.2.2]
theorem box4_made (w : World) (x y z u : Int) (t : TypeId) : (w.alloc (.cells #[.int .i64 x, .int .i64 y, .int .i64 z, .int .i64 u] t)).cell? ⟨w.heap.size, 0, none⟩ = some (.int .i64 x) ∧ (w.alloc (.cells #[.int .i64 x, .int .i64 y, .int .i64 z, .int .i64 u] t)).cell? ⟨w.heap.size, 1, none⟩ = some (.int .i64 y) ∧ (w.alloc (.cells #[.int .i64 x, .int .i64 y, .int .i64 z, .int .i64 u] t)).cell? ⟨w.heap.size, 2, none⟩ = some (.int .i64 z) ∧ (w.alloc (.cells #[.int .i64 x, .int .i64 y, .int .i64 z, .int .i64 u] t)).cell? ⟨w.heap.size, 3, none⟩ = some (.int .i64 u) := by
  refine ⟨?_, ?_, ?_, ?_⟩ <;> go_simp
theorem brk_of {f : Int → Int → Int → Int} {a b c d e : Nat} {v1 v2 v3 v4 v5 v6 : Int} (h1 : f a b c = v1) (h2 : f a d e = v2) (h3 : f a b e = v3) (h4 : f a c d = v4) (h5 : f a b d = v5) (h6 : f a c e = v6) : brk f a b c d e = ((v1 * v2 == v3 * v4) && (v1 * v2 == -v5 * v6)) := by
  unfold brk; rw [h1, h2, h3, h4, h5, h6]
set_option maxHeartbeats 3200000 in
set_option maxRecDepth 100000 in
theorem isBreak_any (B : Nat) (f : Int → Int → Int → Int) (a b c d e : Nat) (ha : a < 8) (hb : b < 8) (hc : c < 8) (hd : d < 8) (he : e < 8) (w : World) (hm : MapIs w B f) :
    Calls Tryz.prog 204 #[.map (some B), .int .i64 a, fr (b, c, d, e)] w fun e' w' => e' = .returned (.bool (brk (sgnF f) a b c d e)) ∧ Below w.heap.size w w' := by
  have HA : Hid (∀ W, Below w.heap.size w W → ∀ x y z : Nat, x < 8 → y < 8 → z < 8 → ∀ v, sgnF f x y z = v → Calls Tryz.prog 146 #[.map (some B), .int .i64 x, .int .i64 y, .int .i64 z] W fun e w' => e = .returned (.int .i64 v) ∧ W = w') := Lib.hid (fun W hW x y z hx hy hz v hv => by
    rw [← hv]; exact at_any B f x y z (by omega) (by omega) (by omega) W (hm.on hW))
  have hbd := fun x y z => sgnF_bd hm.2 x y z
  obtain ⟨v1, h1⟩ : ∃ v, sgnF f a b c = v := ⟨_, rfl⟩
  obtain ⟨v2, h2⟩ : ∃ v, sgnF f a d e = v := ⟨_, rfl⟩
  obtain ⟨v3, h3⟩ : ∃ v, sgnF f a b e = v := ⟨_, rfl⟩
  obtain ⟨v4, h4⟩ : ∃ v, sgnF f a c d = v := ⟨_, rfl⟩
  obtain ⟨v5, h5⟩ : ∃ v, sgnF f a b d = v := ⟨_, rfl⟩
  obtain ⟨v6, h6⟩ : ∃ v, sgnF f a c e = v := ⟨_, rfl⟩
  have HE := Lib.hid (brk_of h1 h2 h3 h4 h5 h6)
  have b1 := hbd a b c
  have b2 := hbd a d e
  have b3 := hbd a b e
  have b4 := hbd a c d
  have b5 := hbd a b d
  have b6 := hbd a c e
  rw [h1] at b1; rw [h2] at b2; rw [h3] at b3; rw [h4] at b4; rw [h5] at b5; rw [h6] at b6
  have m1 := mul_bd b1 b2
  have m2 := mul_bd b3 b4
  have m3 := mul_bd (x := -v5) (by omega) b6
  have HA1 := Lib.hid (fun W hW => HA.out W hW a b c ha hb hc v1 h1)
  have HA2 := Lib.hid (fun W hW => HA.out W hW a d e ha hd he v2 h2)
  have HA3 := Lib.hid (fun W hW => HA.out W hW a b e ha hb he v3 h3)
  have HA4 := Lib.hid (fun W hW => HA.out W hW a c d ha hc hd v4 h4)
  have HA5 := Lib.hid (fun W hW => HA.out W hW a b d ha hb hd v5 h5)
  have HA6 := Lib.hid (fun W hW => HA.out W hW a c e ha hc he v6 h6)
  clear HA hbd hm h1 h2 h3 h4 h5 h6
  obtain ⟨y0, y1, y2, y3⟩ := box4_made w b c d e 152
  cases hq : (v1 * v2 == v3 * v4)
  · rw [hq, Bool.false_and] at HE
    go_enter Tryz.func204, Tryz.ntmps204
    go_wp2
    go_quiet (fail)
    go_wp2_with fail
    refine (HA1.out _ (drewN_below ((Below.refl _ _).alloc (Nat.le_refl _) _) _)).mono ?_
    rintro e' w' ⟨rfl, rfl⟩
    go_wp2_with fail
    refine (HA2.out _ (drewN_below ((Below.refl _ _).alloc (Nat.le_refl _) _) _)).mono ?_
    rintro e' w' ⟨rfl, rfl⟩
    go_wp2_with fail
    refine (HA3.out _ (drewN_below ((Below.refl _ _).alloc (Nat.le_refl _) _) _)).mono ?_
    rintro e' w' ⟨rfl, rfl⟩
    go_wp2_with fail
    refine (HA4.out _ (drewN_below ((Below.refl _ _).alloc (Nat.le_refl _) _) _)).mono ?_
    rintro e' w' ⟨rfl, rfl⟩
    go_wp2
    go_ret
    exact ⟨ret_bool HE.out.symm, drewN_below ((Below.refl _ _).alloc (Nat.le_refl _) _) _⟩
  · rw [hq, Bool.true_and] at HE
    go_enter Tryz.func204, Tryz.ntmps204
    go_wp2
    go_quiet (fail)
    go_wp2_with fail
    refine (HA1.out _ (drewN_below ((Below.refl _ _).alloc (Nat.le_refl _) _) _)).mono ?_
    rintro e' w' ⟨rfl, rfl⟩
    go_wp2_with fail
    refine (HA2.out _ (drewN_below ((Below.refl _ _).alloc (Nat.le_refl _) _) _)).mono ?_
    rintro e' w' ⟨rfl, rfl⟩
    go_wp2_with fail
    refine (HA3.out _ (drewN_below ((Below.refl _ _).alloc (Nat.le_refl _) _) _)).mono ?_
    rintro e' w' ⟨rfl, rfl⟩
    go_wp2_with fail
    refine (HA4.out _ (drewN_below ((Below.refl _ _).alloc (Nat.le_refl _) _) _)).mono ?_
    rintro e' w' ⟨rfl, rfl⟩
    go_wp2_with fail
    refine (HA5.out _ (drewN_below ((Below.refl _ _).alloc (Nat.le_refl _) _) _)).mono ?_
    rintro e' w' ⟨rfl, rfl⟩
    go_wp2_with fail
    refine (HA6.out _ (drewN_below ((Below.refl _ _).alloc (Nat.le_refl _) _) _)).mono ?_
    rintro e' w' ⟨rfl, rfl⟩
    go_wp2
    go_ret
    exact ⟨ret_bool HE.out.symm, drewN_below ((Below.refl _ _).alloc (Nat.le_refl _) _) _⟩
/-- A call beside the boxed signs of the caller. -/
theorem held_box {w0 : World} {n : Int} {s : ByteArray} {f : FuncId} {args : Array Value} {W : World} {v : Value} (h : Calls Tryz.prog f args W fun e w' => e = .returned v ∧ Below W.heap.size W w')
    (hS : W.cell? ⟨w0.heap.size, 0, none⟩ = some (.int .i64 n) ∧ W.cell? ⟨w0.heap.size, 1, none⟩ = some (.string s) ∧ Below w0.heap.size w0 W) :
    Calls Tryz.prog f args W fun e w' => e = .returned v ∧ w'.cell? ⟨w0.heap.size, 0, none⟩ = some (.int .i64 n) ∧ w'.cell? ⟨w0.heap.size, 1, none⟩ = some (.string s) ∧ Below w0.heap.size w0 w' :=
  h.mono fun _ _ ⟨he, hb⟩ => ⟨he, Box.on hS hb⟩
theorem eq_two (x y z : Int) : ((x == y) && (x == z)) = if x == y then (y == z) else false := by
  by_cases hx : x = y
  · subst hx; simp
  · simp [hx]
set_option maxHeartbeats 3200000 in
set_option maxRecDepth 100000 in
theorem l4Breaks_any (n : Nat) (s : ByteArray) (a b c d e : Nat) (h : arB n s.data.toList = true) (hv : Val n a b c d e) (w : World) :
    Calls Tryz.prog 169 #[sg n s, .int .i64 a, .int .i64 b, .int .i64 c, .int .i64 d, .int .i64 e] w fun e' w' => e' = .returned (.bool (brk (sgnF (lookS n s.data.toList)) a b c d e)) ∧ Below w.heap.size w w' := by
  have hbd0 : ∀ x y z, -1 ≤ lookS n s.data.toList x y z ∧ lookS n s.data.toList x y z ≤ 1 := fun x y z => by rw [lookS_yes h]; exact look_bd _ _ _ _ _
  obtain ⟨G, hG⟩ : ∃ G : Nat → Nat → Nat → Int, ∀ x y z : Nat, sgnF (lookS n s.data.toList) x y z = G x y z := ⟨_, fun _ _ _ => rfl⟩
  have hbd : ∀ x y z, -1 ≤ G x y z ∧ G x y z ≤ 1 := fun x y z => by rw [← hG]; exact sgnF_bd hbd0 x y z
  have HA : Hid (∀ x y z : Nat, x < n → y < n → z < n → x ≠ y → y ≠ z → x ≠ z → ∀ W, W.cell? ⟨w.heap.size, 0, none⟩ = some (.int .i64 n) ∧ W.cell? ⟨w.heap.size, 1, none⟩ = some (.string s) ∧ Below w.heap.size w W → Calls Tryz.prog 147 #[sg n s, .int .i64 x, .int .i64 y, .int .i64 z] W fun e w' => e = .returned (.int .i64 (G x y z)) ∧ w'.cell? ⟨w.heap.size, 0, none⟩ = some (.int .i64 n) ∧ w'.cell? ⟨w.heap.size, 1, none⟩ = some (.string s) ∧ Below w.heap.size w w') := Lib.hid (fun x y z hx hy hz h1 h2 h3 W hW => by
    rw [← hG]; exact held_box (l3At_any n s x y z h hx hy hz h1 h2 h3 W) hW)
  obtain ⟨q1, q2, q3, q4, q5, q6, q7, q8, q9⟩ := hv
  have hE := brk_of (f := sgnF (lookS n s.data.toList)) (hG a b c) (hG a d e) (hG a b e) (hG a c d) (hG a b d) (hG a c e)
  rw [eq_two] at hE
  have b1 := hbd a b c
  have b2 := hbd a d e
  have b3 := hbd a b e
  have b4 := hbd a c d
  have b5 := hbd a b d
  have b6 := hbd a c e
  have m1 := mul_bd b1 b2
  have m2 := mul_bd b3 b4
  have m3 := mul_bd (x := -G a b d) (by omega) b6
  have HS := Lib.hid (box_made w n s 25)
  clear hbd hbd0 h hG
  cases hq : (G a b c * G a d e == G a b e * G a c d)
  all_goals
    rw [hq] at hE
    simp only [Bool.false_eq_true, if_false, if_true] at hE
    have HE := Lib.hid hE
    clear hE
    go_enter Tryz.func169, Tryz.ntmps169
    go_wp2
    go_region_held3 (fun W => W.cell? ⟨w.heap.size, 0, none⟩ = some (.int .i64 n) ∧ W.cell? ⟨w.heap.size, 1, none⟩ = some (.string s) ∧ Below w.heap.size w W)
      (first | exact HS.out | exact HS.out.drew | exact ⟨by assumption, by assumption, by assumption⟩)
      (first
      | (go_at_call 147; refine (HA.out _ _ _ (by omega) (by omega) (by omega) (by omega) (by omega) (by omega) _ ?_).mono ?_; (first | exact HS.out.drew | exact ⟨by assumption, by assumption, by assumption⟩); rintro e' w' ⟨rfl, c1, c2, c3⟩))
  all_goals
    go_wp2
    go_region_held3 (fun W => W.cell? ⟨w.heap.size, 0, none⟩ = some (.int .i64 n) ∧ W.cell? ⟨w.heap.size, 1, none⟩ = some (.string s) ∧ Below w.heap.size w W)
      (first | exact ⟨by assumption, by assumption, by assumption⟩ | exact ⟨by assumption, by assumption, Below.drew (by assumption)⟩)
      (first
      | (go_at_call 147; refine (HA.out _ _ _ (by omega) (by omega) (by omega) (by omega) (by omega) (by omega) _ ?_).mono ?_; (first | exact ⟨by assumption, by assumption, by assumption⟩ | exact ⟨by assumption, by assumption, Below.drew (by assumption)⟩); rintro e' w' ⟨rfl, c1, c2, c3⟩))
  all_goals
    go_wp2
    go_region_held3 (fun W => W.cell? ⟨w.heap.size, 0, none⟩ = some (.int .i64 n) ∧ W.cell? ⟨w.heap.size, 1, none⟩ = some (.string s) ∧ Below w.heap.size w W)
      (first | exact ⟨by assumption, by assumption, by assumption⟩ | exact ⟨by assumption, by assumption, Below.drew (by assumption)⟩)
      (first
      | (go_at_call 147; refine (HA.out _ _ _ (by omega) (by omega) (by omega) (by omega) (by omega) (by omega) _ ?_).mono ?_; (first | exact ⟨by assumption, by assumption, by assumption⟩ | exact ⟨by assumption, by assumption, Below.drew (by assumption)⟩); rintro e' w' ⟨rfl, c1, c2, c3⟩))
  all_goals
    go_wp2
    go_ret
    exact ⟨ret_bool HE.out.symm, by assumption⟩
end Go.Proofs.YtinlnafkmoabbaaGreatDoor.Sg
/- impl.foursOf: the fours of n elements, in memory of the call's own. -/
namespace Go.Proofs.YtinlnafkmoabbaaGreatDoor.Sg
open Go.RowKit Pt
/-- The cells of a list of fours. -/
def c4 : List T4 → List Value
  | [] => []
  | t :: r => .int .i64 t.1 :: .int .i64 t.2.1 :: .int .i64 t.2.2.1 :: .int .i64 t.2.2.2 :: c4 r
theorem c4_append : ∀ xs ys : List T4, c4 (xs ++ ys) = c4 xs ++ c4 ys
  | [], ys => rfl
  | t :: r, ys => by simp [c4, c4_append r ys]
theorem c4_get : ∀ (xs : List T4) (j : Nat) (t : T4), xs[j]? = some t → (c4 xs)[j * 4]? = some (.int .i64 t.1) ∧ (c4 xs)[j * 4 + 1]? = some (.int .i64 t.2.1) ∧ (c4 xs)[j * 4 + 2]? = some (.int .i64 t.2.2.1) ∧ (c4 xs)[j * 4 + 3]? = some (.int .i64 t.2.2.2)
  | [], j, t, h => by simp at h
  | x :: r, 0, t, h => by
    simp only [List.getElem?_cons_zero, Option.some.injEq] at h
    subst h
    exact ⟨rfl, rfl, rfl, rfl⟩
  | x :: r, j + 1, t, h => by
    have := c4_get r j t (by simpa using h)
    rw [show (j + 1) * 4 = j * 4 + 4 by omega]
    simpa [c4] using this
def Owns4 (w : World) (B : Nat) (v : Value) (xs : List T4) : Prop := w.ownsRow B 152 4 v xs.length (c4 xs)
theorem owns4_snoc {w : World} {B : Nat} {v : Value} {xs : List T4} {i j k l : Nat} (h : w.ownsRow B 152 4 v (xs.length + 1) (c4 xs ++ [.int .i64 i, .int .i64 j, .int .i64 k, .int .i64 l])) : Owns4 w B v (xs ++ [(i, j, k, l)]) := by
  unfold Owns4
  rw [c4_append, List.length_append]
  exact h
set_option maxRecDepth 100000 in
theorem info4 : (Tryz.prog.info? 152).map (fun i => (i.zero, i.size, i.bytes)) = some (some (.agg #[.int .i64 0, .int .i64 0, .int .i64 0, .int .i64 0]), 4, 32) := by kernel_rfl
theorem news4 (w : World) (x y z u : Int) (t : TypeId) : ∀ (j : Nat) v, [Value.int .i64 x, Value.int .i64 y, Value.int .i64 z, Value.int .i64 u][j]? = some v → (w.alloc (.cells #[.int .i64 x, .int .i64 y, .int .i64 z, .int .i64 u] t)).cell? (Addr.add ⟨w.heap.size, 0, none⟩ j) = some v
  | 0, v, h => by rw [WideShapes.add_plain, Nat.add_zero, World.cell?_alloc_new]; simpa using h
  | 1, v, h => by rw [WideShapes.add_plain, World.cell?_alloc_new]; simpa using h
  | 2, v, h => by rw [WideShapes.add_plain, World.cell?_alloc_new]; simpa using h
  | 3, v, h => by rw [WideShapes.add_plain, World.cell?_alloc_new]; simpa using h
  | j + 4, v, h => by simp at h
theorem one4 (x y z u : Int) : ∀ v ∈ [Value.int .i64 x, Value.int .i64 y, Value.int .i64 z, Value.int .i64 u], v.oneCell' = true := fun v hv => by
  simp only [List.mem_cons, List.not_mem_nil, or_false] at hv
  rcases hv with rfl | rfl | rfl | rfl <;> rfl
/-- The cells of a row of fours. -/
def At4 (w : World) (g : Nat) (xs : List T4) : Prop := ∀ (j : Nat) t, xs[j]? = some t → w.cell? ⟨g, j * 4, none⟩ = some (.int .i64 t.1) ∧ w.cell? ⟨g, j * 4 + 1, none⟩ = some (.int .i64 t.2.1) ∧ w.cell? ⟨g, j * 4 + 2, none⟩ = some (.int .i64 t.2.2.1) ∧ w.cell? ⟨g, j * 4 + 3, none⟩ = some (.int .i64 t.2.2.2)
theorem At4.block {w w' : World} {g : Nat} {xs : List T4} (h : At4 w g xs) (e : w'.heap[g]? = w.heap[g]?) : At4 w' g xs := fun j t hj => by
  have c := fun o => World.cell?_of_block (a := ⟨g, o, none⟩) e
  rw [c, c, c, c]
  exact h j t hj
theorem At4.on {w w' : World} {B g : Nat} {xs : List T4} (h : At4 w g xs) (hb : Below B w w') (hB : g < B) : At4 w' g xs := h.block (hb.block g hB)
theorem owns4_row {w : World} {B : Nat} {v : Value} {xs : List T4} (h : Owns4 w B v xs) : ∃ a c, v = .slice a xs.length c ∧ (xs ≠ [] → ∃ g, a = some ⟨g, 0, none⟩ ∧ B ≤ g ∧ g < w.heap.size ∧ At4 w g xs) := by
  have hlt := World.ownsRow.lt h
  obtain ⟨hl, ⟨rfl, h1⟩ | ⟨g, cap, cur, hv, hB, hh, hr⟩⟩ := id h
  · exact ⟨none, 0, by rw [h1], fun hne => absurd (List.eq_nil_of_length_eq_zero h1) hne⟩
  · subst hv
    have hc := World.ownsRow.cells h (g := g) rfl
    refine ⟨_, cap, rfl, fun _ => ⟨g, rfl, hB, (hlt g rfl).2, fun j t hj => ?_⟩⟩
    obtain ⟨e0, e1, e2, e3⟩ := c4_get xs j t hj
    have r0 := hc _ _ e0
    have r1 := hc _ _ e1
    have r2 := hc _ _ e2
    have r3 := hc _ _ e3
    rw [WideShapes.add_plain, Nat.zero_add] at r0 r1 r2 r3
    exact ⟨r0, r1, r2, r3⟩
/-- A row's block is none whose cells are of another type. -/
theorem own_box {w : World} {B b n size : Nat} {e e' : TypeId} {v : Value} {xs : List Value} {cs : Array Value} (h : w.ownsRow B e size v n xs) (hb : w.heap[b]? = some (.cells cs e')) (hne : e ≠ e') : some b ≠ v.ownBlock := by
  rcases h.2 with ⟨rfl, -⟩ | ⟨g, cap, cur, rfl, -, hh, -⟩
  · simp [Value.ownBlock]
  · intro e2
    have e2 : b = g := by simpa [Value.ownBlock] using e2
    subst e2
    rw [hh] at hb
    injection hb with hb
    injection hb with _ ht
    exact hne ht
theorem heap_made (w : World) (o : Obj) : (w.alloc o).heap[w.heap.size]? = some o := (MapKept.heap_alloc w o).1
set_option maxHeartbeats 1600000 in
set_option maxRecDepth 100000 in
theorem foursOf_any (n : Nat) (h3 : 3 ≤ n) (h7 : n ≤ 7) (w : World) :
    Calls Tryz.prog 172 #[.int .i64 n] w fun e w' => ∃ v, e = .returned v ∧ Owns4 w' w.heap.size v (fours n) ∧ Below w.heap.size w w' := by
  have hc35 := cnt_le h7
  have HT := Lib.hid (threes_length h7)
  have hcp : 0 < cnt n := by rcases (by omega : n = 3 ∨ n = 4 ∨ n = 5 ∨ n = 6 ∨ n = 7) with rfl | rfl | rfl | rfl | rfl <;> decide
  obtain ⟨i0, hi, hz0, hz1, hz2⟩ := info_parts info4
  have HL : Hid (∀ p, p ≤ cnt n → (foursB n p).length ≤ 35) := Lib.hid (fun p hp => foursB_len h7 hp)
  have HALL := Lib.hid (foursB_all h7)
  go_enter Tryz.func172, Tryz.ntmps172
  go_wp2_with fail
  refine (threesOf_any n h3 h7 _).mono ?_
  rintro e w1 ⟨v, rfl, hv, hb1⟩
  obtain ⟨g3, c, rfl, hg1, hg2, h3a⟩ := owns3_row hv (by rw [HT.out]; exact hcp)
  rw [HT.out]
  have HA3 := Lib.hid h3a
  have HB1 := Lib.hid hb1
  have HO : Hid (Owns4 w1 w1.heap.size (.slice none 0 0) (foursB n 0)) := Lib.hid (by rw [foursB_zero]; exact World.ownsRow_nil _ _ _ _)
  clear hv h3a hb1
  go_wp2
  go_loopw [3, 10] (fun vv c wr => ∃ p : Nat, p ≤ cnt n ∧ c = .int .i64 p ∧ Hid (Owns4 wr w1.heap.size vv (foursB n p)) ∧ Below w1.heap.size w1 wr) (fun _ c _ => cnt n - (intOf c).toNat)
  case atStart => exact ⟨0, Nat.zero_le _, rfl, HO, Below.refl _ _⟩
  case round =>
    obtain ⟨p, hp, rfl, HV, hb⟩ := hrel
    by_cases hlt : p < cnt n
    · obtain ⟨t, ht⟩ : ∃ t, (threes n)[p]? = some t := ⟨_, List.getElem?_eq_getElem (by rw [HT.out]; exact hlt)⟩
      obtain ⟨x0, x1, x2⟩ := (HA3.out.on hb hg2) p t ht
      obtain ⟨t1, t2, t3⟩ := threes_mem h7 (List.mem_of_getElem? ht)
      have HS := Lib.hid (foursB_succ ht)
      have hfl := HL.out p hp
      have HR1 := Lib.hid (row4_succ t)
      have HRL := Lib.hid (row4_length t)
      obtain ⟨F, hF⟩ : ∃ F, F = foursB n p := ⟨_, rfl⟩
      rw [← hF] at HV HS hfl
      clear hF ht
      go_wp2
      obtain ⟨wo, hwo⟩ : ∃ wo, wo = wr := ⟨_, rfl⟩
      subst hwo
      obtain ⟨z0, z1, z2⟩ := box3_made wo t.1 t.2.1 t.2.2 99
      have HZ := Lib.hid (⟨z0, z1, z2⟩ : _ ∧ _ ∧ _)
      have hbt := hb.alloc hb.size (.cells #[.int .i64 t.1, .int .i64 t.2.1, .int .i64 t.2.2] 99)
      have HM := Lib.hid (heap_made wo (.cells #[.int .i64 t.1, .int .i64 t.2.1, .int .i64 t.2.2] 99))
      have HVt := Lib.hid (World.ownsRow.alloc HV.out (.cells #[.int .i64 t.1, .int .i64 t.2.1, .int .i64 t.2.2] 99))
      have e0 : F = F ++ row4 t 0 := by unfold row4; simp
      have hrl := hb.size
      have hws : (wo.alloc (.cells #[.int .i64 t.1, .int .i64 t.2.1, .int .i64 t.2.2] 99)).heap.size = wo.heap.size + 1 := by simp
      obtain ⟨wt, hwt⟩ : ∃ wt, wt = wo.alloc (.cells #[.int .i64 t.1, .int .i64 t.2.1, .int .i64 t.2.2] 99) := ⟨_, rfl⟩
      rw [← hwt] at HVt hbt HZ HM z0 z1 z2 hws ⊢
      clear hwt
      go_loopw [3, 6] (fun vv c wq => ∃ m : Nat, m ≤ n - (t.2.2 + 1) ∧ c = .int .i64 (t.2.2 + 1 + m : Nat) ∧ Hid (Owns4 wq w1.heap.size vv (F ++ row4 t m)) ∧ Hid (wq.heap[wo.heap.size]? = wt.heap[wo.heap.size]? ∧ wt.heap.size ≤ wq.heap.size ∧ Below w1.heap.size w1 wq)) (fun _ c _ => n - (intOf c).toNat)
      case atStart => exact ⟨0, Nat.zero_le _, by go_num, by rw [← e0]; exact HVt, Lib.hid ⟨rfl, Nat.le_refl _, hbt⟩⟩
      case round =>
        obtain ⟨m, hm, rfl, HV, HC⟩ := hrel
        by_cases hltm : t.2.2 + 1 + m < n
        · obtain ⟨he, hsz, hb⟩ := HC.out
          have z0 := (World.cell?_of_block (a := ⟨wo.heap.size, 0, none⟩) he).trans HZ.out.1
          have z1 := (World.cell?_of_block (a := ⟨wo.heap.size, 1, none⟩) he).trans HZ.out.2.1
          have z2 := (World.cell?_of_block (a := ⟨wo.heap.size, 2, none⟩) he).trans HZ.out.2.2
          have hll : (F ++ row4 t m).length ≤ 42 := by rw [List.length_append, HRL.out]; omega
          clear e0 he
          go_wp2_with (at_builtin; refine wpList_append_own _ rfl (.tmp 22) (.tmp 31) 135 rfl w1.heap.size 152 i0 _ 4 32 Tryz.underlying135 hi hz0 hz1 hz2 rfl (by decide) _ _ _ rfl (World.ownsRow.alloc HV.out _) ⟨_, 0, none⟩ 1 1 [.int .i64 t.1, .int .i64 t.2.1, .int .i64 t.2.2, .int .i64 (t.2.2 + 1 + m : Nat)] rfl rfl ?_ ?_ ?_ ?_ ?_ ?_)
          · exact news4 _ _ _ _ _ _
          · exact one4 _ _ _ _
          · simp only [maxLen]; omega
          · omega
          · have := hb.size; simp; omega
          intro v1 w2 hown1 hg1 _
          have HB2 : Hid (w2.heap[wo.heap.size]? = wt.heap[wo.heap.size]? ∧ wt.heap.size ≤ w2.heap.size ∧ Below w1.heap.size w1 w2) := Lib.hid (by
            obtain ⟨he, hsz, hb⟩ := HC.out
            have hs2 := hg1.size
            refine ⟨?_, ?_, ?_⟩
            · rw [hg1.block _ (by simp; omega) (own_box HV.out (he.trans HM.out) (by decide)), (MapKept.heap_alloc wr _).2 _ (by omega)]
              exact he
            · simp at hs2; omega
            · exact (hb.alloc hb.size _).grown hg1 (by have := hb.size; simp; omega) (fun q hq => (World.ownsRow.lt HV.out q hq).1))
          have HV1 : Hid (Owns4 w2 w1.heap.size v1 (F ++ row4 t m ++ [(t.1, t.2.1, t.2.2, t.2.2 + 1 + m)])) := Lib.hid (owns4_snoc (by rw [List.length_append, show ((t.2.2 + 1 + m : Nat) : Int) = (t.2.2 : Int) + 1 + m by omega]; exact hown1))
          have HN : Hid (F ++ row4 t m ++ [(t.1, t.2.1, t.2.2, t.2.2 + 1 + m)] = F ++ row4 t (m + 1)) := Lib.hid (by rw [HR1.out, List.append_assoc])
          rw [HN.out] at HV1
          clear hown1 hg1 z0 z1 z2
          go_wp2
          exact ⟨⟨m + 1, by omega, by go_num, HV1, HB2⟩, by simp only [intOf]; omega⟩
        · clear e0
          obtain rfl : m = n - (t.2.2 + 1) := by omega
          have HV2 := HV
          rw [← HS.out] at HV2
          have hb2 := HC.out.2.2
          clear HV HC
          go_wp2
          exact ⟨⟨p + 1, by omega, by go_num, HV2, hb2⟩, by simp only [intOf]; omega⟩
    · have HV2 := HV
      rw [show p = cnt n by omega, HALL.out] at HV2
      clear HV
      go_wp2
      go_ret
      exact ⟨_, rfl, ⟨HV2.out.1, HV2.out.2.imp id (fun ⟨g, cap, cur, a, b, c⟩ => ⟨g, cap, cur, a, by have := HB1.out.size; omega, c⟩)⟩, HB1.out.trans (hb.mono HB1.out.size)⟩
end Go.Proofs.YtinlnafkmoabbaaGreatDoor.Sg
