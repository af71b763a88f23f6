/- Signs in a map from three elements: the map's reading, the sign of any three (impl's signMap.at). -/
import Derived.Test.YtfjimdmoindepaaSgAreImpl
import Derived.Maps.OwnOps
import Derived.Maps.Views
import Derived.DeepKeys4
namespace Go.Proofs.Ytfjimdmoindepaa.Sg
open Go.RowKit Pt Go.Maps
theorem laidOut : laidOutB Try.prog = true := by kernel_rfl
set_option maxRecDepth 100000 in
theorem law : Keyed Try.prog 66 := Keyed.of_law (deep_law_laid laidOut (m := 9) (by omega) (of_decide_eq_true (by kernel_rfl)) (by kernel_rfl) (by kernel_rfl))
/-- What a key reads as. -/
def kl (a b c : Int) : Lit := .string (keyBytes [.int .i64 a, .int .i64 b, .int .i64 c])
theorem wf_i {a : Int} (h : -9223372036854775808 ≤ a ∧ a ≤ 9223372036854775807) : (Lit.int .i64 a).wf = true := WalkArith.wf_i64 (by omega)
set_option maxRecDepth 100000 in
theorem key_three {a b c : Int} (ha : -9223372036854775808 ≤ a ∧ a ≤ 9223372036854775807) (hb : -9223372036854775808 ≤ b ∧ b ≤ 9223372036854775807) (hc : -9223372036854775808 ≤ c ∧ c ≤ 9223372036854775807) :
    keyOf Try.prog 66 (.agg #[.int .i64 a, .int .i64 b, .int .i64 c]) = some (kl a b c) := by
  have u1 : Try.prog.underlying 66 = some (.array 3 3) := by kernel_rfl
  have u2 : Try.prog.underlying 3 = some (.int .i64) := by kernel_rfl
  have k1 : Try.prog.keyType 66 = true := by kernel_rfl
  have z1 : Try.prog.cellsOf 66 = 3 := by kernel_rfl
  have z2 : Try.prog.cellsOf 3 = 1 := by kernel_rfl
  obtain ⟨d, hd⟩ : ∃ d, Try.prog.types.size + 1 = d + 2 := ⟨Try.prog.types.size - 1, by have : 0 < Try.prog.types.size := of_decide_eq_true (by kernel_rfl); omega⟩
  have hr : (List.range 3).mapM (fun i => Try.prog.keyLits (d + 1) 3 ((([.int .i64 a, .int .i64 b, .int .i64 c] : List Value).drop (i * 1)).take 1)) = some [[.int .i64 a], [.int .i64 b], [.int .i64 c]] := by
    rw [show List.range 3 = [0, 1, 2] by decide]
    simp [Program.keyLits, u2, wf_i ha, wf_i hb, wf_i hc]
  have hk : Try.prog.keyLits (d + 2) 66 [.int .i64 a, .int .i64 b, .int .i64 c] = some [.int .i64 a, .int .i64 b, .int .i64 c] := by
    unfold Program.keyLits
    simp only [u1, z1, z2, List.length_cons, List.length_nil]
    rw [if_pos (by decide), hr]
    rfl
  unfold keyOf
  simp only [u1]
  have hf : Value.formed Try.prog 66 (.agg #[.int .i64 a, .int .i64 b, .int .i64 c]) = true := by
    unfold Value.formed
    simp only [u1, z1]
    rfl
  rw [k1, hf, hd]
  have hcells : (Value.agg #[.int .i64 a, .int .i64 b, .int .i64 c]).cells.toList = [.int .i64 a, .int .i64 b, .int .i64 c] := rfl
  rw [hcells, hk]
  rfl
theorem kl_inj {a b c a' b' c' : Int} (ha : -9223372036854775808 ≤ a ∧ a ≤ 9223372036854775807) (hb : -9223372036854775808 ≤ b ∧ b ≤ 9223372036854775807) (hc : -9223372036854775808 ≤ c ∧ c ≤ 9223372036854775807)
    (ha' : -9223372036854775808 ≤ a' ∧ a' ≤ 9223372036854775807) (hb' : -9223372036854775808 ≤ b' ∧ b' ≤ 9223372036854775807) (hc' : -9223372036854775808 ≤ c' ∧ c' ≤ 9223372036854775807) (h : kl a b c = kl a' b' c') : a = a' ∧ b = b' ∧ c = c' := by
  have h1 := key_three ha hb hc
  have h2 := key_three ha' hb' hc'
  rw [← h] at h2
  have := law.inj h1 h2
  simpa using this
theorem zeroInt (w : World) : (zeroValue 3).run Try.prog w = .ok (.int .i64 0) w := by kernel_rfl
/-- Block b is a map that has f a b c at the key a, b, c. -/
def MapIs (w : World) (b : Nat) (f : Int → Int → Int → Int) : Prop :=
  (∃ (m : Nat) (D : DataW Unit), w.ownsMap Try.prog 66 (plainElem Try.prog 3) b m D ∧ ∀ x y z : Int, -9223372036854775808 ≤ x ∧ x ≤ 9223372036854775807 → -9223372036854775808 ≤ y ∧ y ≤ 9223372036854775807 → -9223372036854775808 ≤ z ∧ z ≤ 9223372036854775807 → D.atKey (kl x y z) (.lit (.int .i64 0)) = .lit (.int .i64 (f x y z))) ∧
  ∀ x y z, -1 ≤ f x y z ∧ f x y z ≤ 1
theorem MapIs.lt {w : World} {b : Nat} {f : Int → Int → Int → Int} (h : MapIs w b f) : b < w.heap.size := by
  obtain ⟨⟨m, D, h, -⟩, -⟩ := h
  exact World.ownsMap.lt h
theorem MapIs.on {w w' : World} {b : Nat} {f : Int → Int → Int → Int} (h : MapIs w b f) (hb : Below w.heap.size w w') : MapIs w' b f := by
  obtain ⟨⟨m, D, h, ha⟩, hf⟩ := h
  exact ⟨⟨m, D, World.ownsMap.kept h (row := none) ⟨hb.os, hb.tape, hb.output, hb.size, fun k hk _ => hb.block k hk⟩ (by simp), ha⟩, hf⟩
theorem MapIs.drewN {w : World} {b : Nat} {f : Int → Int → Int → Int} (h : MapIs w b f) (n : Nat) : MapIs (w.drewN n) b f := h
/-- The sign of any three, by those in order. -/
def sgnF (f : Int → Int → Int → Int) (i j k : Int) : Int := (srt i j k).2.2.2 * f (srt i j k).1 (srt i j k).2.1 (srt i j k).2.2.1
theorem sgnF_of {f : Int → Int → Int → Int} {i j k a b c p : Int} (h : srt i j k = (a, b, c, p)) : sgnF f i j k = p * f a b c := by unfold sgnF; rw [h]
set_option maxHeartbeats 1600000 in
set_option maxRecDepth 100000 in
theorem at_any (b : Nat) (f : Int → Int → Int → Int) (i j k : Int) (hi : -9223372036854775808 ≤ i ∧ i ≤ 9223372036854775807) (hj : -9223372036854775808 ≤ j ∧ j ≤ 9223372036854775807) (hk : -9223372036854775808 ≤ k ∧ k ≤ 9223372036854775807) (w : World) (hm : MapIs w b f) :
    Calls Try.prog 42 #[.map (some b), .int .i64 i, .int .i64 j, .int .i64 k] w fun e w' => e = .returned (.int .i64 (sgnF f i j k)) ∧ w = w' := by
  obtain ⟨⟨m, D, hown, hat⟩, hbd⟩ := hm
  have HAT : Hid (∀ x y z c : Int, -9223372036854775808 ≤ x ∧ x ≤ 9223372036854775807 → -9223372036854775808 ≤ y ∧ y ≤ 9223372036854775807 → -9223372036854775808 ≤ z ∧ z ≤ 9223372036854775807 → D.atKey (kl x y z) (.lit (.int .i64 0)) = .lit (.int .i64 c) → c = f x y z) := Lib.hid (fun x y z c hx hy hz h => by
    have := (hat x y z hx hy hz).symm.trans h
    injection this with this
    injection this with _ this
    exact this.symm)
  have HBD := Lib.hid hbd
  clear hat hbd
  by_cases h1 : j < i
  · by_cases h2 : k < i
    · by_cases h3 : k < j
      · have HE : Hid (srt i j k = (k, j, i, -1)) := Lib.hid (by unfold srt; simp [h1, h2, h3]; try omega)
        have HF := Lib.hid (sgnF_of (f := f) HE.out)
        have hbc := HBD.out k j i
        go_enter Try.func42, Try.ntmps42
        go_wp2_with (at_lookup; refine wpList_lookup_own_int _ rfl _ _ 48 rfl 66 3 .i64 law Try.underlying48 Try.underlying3 (zeroInt _) b m D rfl hown _ _ rfl (key_three hk hj hi) ?_; intro c hat hwc; obtain rfl := HAT.out _ _ _ _ hk hj hi hat)
        go_ret
        exact ⟨ret_int (by rw [HF.out]; omega), rfl⟩
      · have HE : Hid (srt i j k = (j, k, i, 1)) := Lib.hid (by unfold srt; simp [h1, h2, h3]; try omega)
        have HF := Lib.hid (sgnF_of (f := f) HE.out)
        have hbc := HBD.out j k i
        go_enter Try.func42, Try.ntmps42
        go_wp2_with (at_lookup; refine wpList_lookup_own_int _ rfl _ _ 48 rfl 66 3 .i64 law Try.underlying48 Try.underlying3 (zeroInt _) b m D rfl hown _ _ rfl (key_three hj hk hi) ?_; intro c hat hwc; obtain rfl := HAT.out _ _ _ _ hj hk hi hat)
        go_ret
        exact ⟨ret_int (by rw [HF.out]; omega), rfl⟩
    · have HE : Hid (srt i j k = (j, i, k, -1)) := Lib.hid (by unfold srt; simp [h1, h2]; try omega)
      have HF := Lib.hid (sgnF_of (f := f) HE.out)
      have hbc := HBD.out j i k
      go_enter Try.func42, Try.ntmps42
      go_wp2_with (at_lookup; refine wpList_lookup_own_int _ rfl _ _ 48 rfl 66 3 .i64 law Try.underlying48 Try.underlying3 (zeroInt _) b m D rfl hown _ _ rfl (key_three hj hi hk) ?_; intro c hat hwc; obtain rfl := HAT.out _ _ _ _ hj hi hk hat)
      go_ret
      exact ⟨ret_int (by rw [HF.out]; omega), rfl⟩
  · by_cases h2 : k < j
    · by_cases h3 : k < i
      · have HE : Hid (srt i j k = (k, i, j, 1)) := Lib.hid (by unfold srt; simp [h1, h2, h3]; try omega)
        have HF := Lib.hid (sgnF_of (f := f) HE.out)
        have hbc := HBD.out k i j
        go_enter Try.func42, Try.ntmps42
        go_wp2_with (at_lookup; refine wpList_lookup_own_int _ rfl _ _ 48 rfl 66 3 .i64 law Try.underlying48 Try.underlying3 (zeroInt _) b m D rfl hown _ _ rfl (key_three hk hi hj) ?_; intro c hat hwc; obtain rfl := HAT.out _ _ _ _ hk hi hj hat)
        go_ret
        exact ⟨ret_int (by rw [HF.out]; omega), rfl⟩
      · have HE : Hid (srt i j k = (i, k, j, -1)) := Lib.hid (by unfold srt; simp [h1, h2, h3]; try omega)
        have HF := Lib.hid (sgnF_of (f := f) HE.out)
        have hbc := HBD.out i k j
        go_enter Try.func42, Try.ntmps42
        go_wp2_with (at_lookup; refine wpList_lookup_own_int _ rfl _ _ 48 rfl 66 3 .i64 law Try.underlying48 Try.underlying3 (zeroInt _) b m D rfl hown _ _ rfl (key_three hi hk hj) ?_; intro c hat hwc; obtain rfl := HAT.out _ _ _ _ hi hk hj hat)
        go_ret
        exact ⟨ret_int (by rw [HF.out]; omega), rfl⟩
    · have HE : Hid (srt i j k = (i, j, k, 1)) := Lib.hid (by unfold srt; simp [h1, h2]; try omega)
      have HF := Lib.hid (sgnF_of (f := f) HE.out)
      have hbc := HBD.out i j k
      go_enter Try.func42, Try.ntmps42
      go_wp2_with (at_lookup; refine wpList_lookup_own_int _ rfl _ _ 48 rfl 66 3 .i64 law Try.underlying48 Try.underlying3 (zeroInt _) b m D rfl hown _ _ rfl (key_three hi hj hk) ?_; intro c hat hwc; obtain rfl := HAT.out _ _ _ _ hi hj hk hat)
      go_ret
      exact ⟨ret_int (by rw [HF.out]; omega), rfl⟩
end Go.Proofs.Ytfjimdmoindepaa.Sg
