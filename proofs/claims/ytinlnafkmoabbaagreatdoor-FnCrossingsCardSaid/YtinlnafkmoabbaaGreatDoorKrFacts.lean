/- What FnCrossings asks of the answers, on plain functions; laws.size of a set of edges. -/
import Derived.Test.YtinlnafkmoabbaaGreatDoorMgKd
import Derived.Test.YtinlnafkmoabbaaGreatDoorQuFacts
namespace Go.Proofs.YtinlnafkmoabbaaGreatDoor.Sg
open Go.RowKit Pt NewI
/-- How many elements a set of at most f bits has. -/
def szF : Nat → Nat → Nat
  | 0, _ => 0
  | f + 1, S => S % 2 + szF f (S / 2)
theorem szF_zero : ∀ f, szF f 0 = 0
  | 0 => rfl
  | f + 1 => by show 0 % 2 + szF f (0 / 2) = 0; rw [show 0 / 2 = 0 from rfl, szF_zero f]
theorem szF_le : ∀ f S, szF f S ≤ f
  | 0, _ => Nat.le_refl _
  | f + 1, S => by
    have := szF_le f (S / 2)
    show S % 2 + szF f (S / 2) ≤ _
    omega
theorem szF_is : ∀ f S, szF f S = (List.range f).countP fun k => S.testBit k
  | 0, _ => rfl
  | f + 1, S => by
    rw [List.range_succ_eq_map, List.countP_cons, List.countP_map]
    show S % 2 + szF f (S / 2) = _
    rw [szF_is f (S / 2)]
    have e : ((fun k => S.testBit k) ∘ Nat.succ) = fun k => (S / 2).testBit k := by
      funext k
      show S.testBit (k + 1) = _
      rw [Nat.testBit_succ]
    rw [e, Nat.testBit_zero]
    rcases Nat.mod_two_eq_zero_or_one S with h | h <;> rw [h] <;> simp <;> omega
set_option maxHeartbeats 800000 in
set_option maxRecDepth 100000 in
theorem sizeE_any (S : Nat) (hS : S < 2097152) (w : World) :
    Calls Tryz.prog 26 #[.int .i64 S] w fun e w' => e = .returned (.int .i64 (szF 21 S : Nat)) ∧ w = w' := by
  have HST : Hid (∀ f k, szF (f + 1) k = k % 2 + szF f (k / 2)) := Lib.hid (fun _ _ => rfl)
  have HZ := Lib.hid szF_zero
  have HLE := Lib.hid (szF_le 21 S)
  have H0 : Hid (0 + szF 21 S = szF 21 S) := Lib.hid (Nat.zero_add _)
  generalize hR : szF 21 S = R at HLE H0 ⊢
  rw [← hR] at H0
  have HR := Lib.hid hR
  clear hR
  go_enter Tryz.func26, Tryz.ntmps26
  go_wp2
  go_loop [0, 3] (fun x sv => ∃ k t f : Nat, x = .int .i64 k ∧ sv = .int .i64 t ∧ k < 2097152 ∧ t ≤ 21 ∧ Hid (k < 2 ^ f) ∧ Hid (t + szF f k = R)) (fun x _ => (intOf x).toNat)
  case atStart => exact ⟨S, 0, 21, rfl, rfl, hS, by omega, Lib.hid (by omega), Lib.hid (by rw [Nat.zero_add]; exact HR.out)⟩
  case round =>
    obtain ⟨k, t, f, rfl, rfl, hk, ht, HF, HT⟩ := hrel
    by_cases hz : k = 0
    · subst hz
      have HE : Hid (t = R) := Lib.hid (by have := HT.out; rw [HZ.out] at this; omega)
      clear HT HF
      go_wp2
      go_ret
      exact ⟨ret_int (by rw [HE.out]), rfl⟩
    · obtain ⟨f, rfl⟩ : ∃ g, f = g + 1 := ⟨f - 1, by
        have := HF.out
        rcases f with _ | f
        · simp at this; omega
        · rfl⟩
      have HT2 : Hid (t + k % 2 + szF f (k / 2) = R) := Lib.hid (by have := HT.out; rw [HST.out] at this; omega)
      have HF2 : Hid (k / 2 < 2 ^ f) := Lib.hid (by have := HF.out; rw [Nat.pow_succ] at this; omega)
      have ht2 : t + k % 2 ≤ 21 := by have := HT2.out; have := HLE.out; omega
      have hk2 : k / 2 < 2097152 := by omega
      have hkp : 0 < k := by omega
      clear HT HF
      go_wp2
      go_round
      case rel => exact ⟨k / 2, t + k % 2, f, by go_num, by go_num, hk2, ht2, HF2, HT2⟩
      case measure => simp only [intOf]; omega
theorem szF_setN (q : Nat → Bool) (K : Nat) (hK : K ≤ 21) : szF 21 (setN q K) = (List.range K).countP q := by
  rw [szF_is]
  obtain ⟨d, hd⟩ : ∃ d, 21 = K + d := ⟨21 - K, by omega⟩
  rw [hd, List.range_add, List.countP_append, List.countP_map]
  have e1 : (List.range K).countP (fun k => (setN q K).testBit k) = (List.range K).countP q := List.countP_congr fun k hk => by
    rw [setN_bit, decide_eq_true (List.mem_range.1 hk), Bool.true_and]
  have e2 : (List.range d).countP ((fun k => (setN q K).testBit k) ∘ fun x => K + x) = 0 := List.countP_eq_zero.2 fun k _ => by
    show ¬ (setN q K).testBit (K + k) = true
    rw [setN_bit, decide_eq_false (by omega)]
    simp
  rw [e1, e2]
  rfl
section
variable {n : Nat} {s : List UInt8}
theorem hullE_lt (F : Int → Int → Int → Int) (h7 : n ≤ 7) : hullE F n < 2 ^ eN n ∧ freeE F n < 2 ^ eN n ∧ 2 ^ eN n ≤ 2097152 :=
  ⟨setN_lt _ _, setN_lt _ _, Nat.pow_le_pow_right (n := 2) (by omega) (eN_bd n (by omega))⟩
/-- The hull has as many edges as elements. -/
theorem hull_size (h : aciB n s = true) : huZ n s = (hullE (sgnF (lookS n s)) n : Nat) ∧ ((szF 21 (hullE (sgnF (lookS n s)) n) : Nat) : Int) = hszZ n s := by
  have h7 := (aciB_n h).2
  refine ⟨by unfold huZ; rw [if_pos h, Int.toNat_natCast], ?_⟩
  rw [← hull_count h]
  unfold hullE
  rw [szF_setN _ _ (eN_bd n (by omega))]
theorem free_is (h : aciB n s = true) : frZ n s = (freeE (sgnF (lookS n s)) n : Nat) := by unfold frZ; rw [if_pos h, Int.toNat_natCast]
/-- The hull's edges are free. -/
theorem hull_in_free (h : aciB n s = true) : bits BinOp.andNot IntKind.i64 (huZ n s) (frZ n s) = 0 := by
  have h7 := (aciB_n h).2
  obtain ⟨a, b, c⟩ := hullE_lt (n := n) (sgnF (lookS n s)) (by omega)
  rw [(hull_size h).1, free_is h, (Cur.bits_andNot2 _ _ (by omega) (by omega)).1]
  have e : hullE (sgnF (lookS n s)) n &&& freeE (sgnF (lookS n s)) n = hullE (sgnF (lookS n s)) n := by
    refine Nat.eq_of_testBit_eq fun k => ?_
    rw [Nat.testBit_and]
    cases hk : (hullE (sgnF (lookS n s)) n).testBit k
    · rfl
    · rw [hull_sub h k hk]; rfl
  rw [e, Nat.xor_self]
  rfl
theorem cp_in (h : aciB n s = true) (S : Nat) (hS : S < 2 ^ eN n) : cpZ n s S = (prN (sgnF (lookS n s)) n S : Nat) := by
  obtain ⟨h3, h7⟩ := aciB_n h
  have hin : inB (S : Int) 0 (allZ n) = true := by
    unfold allZ
    rw [if_pos (inB_yes h3 h7), Int.toNat_natCast]
    exact inB_yes (by omega) (by omega)
  unfold cpZ
  rw [if_pos ⟨h, hin⟩, Int.toNat_natCast, Int.toNat_natCast]
theorem hull_plane0 (h : aciB n s = true) : cpZ n s (huZ n s) = 0 := by
  have h7 := (aciB_n h).2
  rw [(hull_size h).1, cp_in h _ (hullE_lt _ (by omega)).1, hull_plane h]
  rfl
theorem free_plane0 (h : aciB n s = true) : cpZ n s (frZ n s) = 0 := by
  have h7 := (aciB_n h).2
  rw [free_is h, cp_in h _ (hullE_lt _ (by omega)).2.1, free_plane _ (by omega)]
  rfl
/-- All edges together: as many crossing pairs as convex sets of four. -/
theorem all_quads (h : aciB n s = true) : cpZ n s (allZ n) = ((quads (sgnF (lookS n s)) n).length : Nat) := by
  obtain ⟨h3, h7⟩ := aciB_n h
  have e : allZ n = ((2 ^ eN n - 1 : Nat) : Int) := by unfold allZ; rw [if_pos (inB_yes h3 h7), Int.toNat_natCast]
  have hp := Nat.pow_pos (n := eN n) (show 0 < 2 by omega)
  rw [e, cp_in h _ (by omega), pr_all h]
theorem cp_no {n : Int} (h : aciB n s = false) (S : Int) : cpZ n s S = -1 := by unfold cpZ; rw [h]; simp
end
theorem idx_sym (n i j : Int) : idxZ n i j = idxZ n j i := by
  unfold idxZ
  have e : difB n [i, j] = difB n [j, i] := by
    rw [Bool.eq_iff_iff, difB2_iff, difB2_iff]
    exact ⟨fun ⟨a, b, c⟩ => ⟨b, a, fun e => c e.symm⟩, fun ⟨a, b, c⟩ => ⟨b, a, fun e => c e.symm⟩⟩
  rw [e, ix_swap]
/-- The edge of a number has that number. -/
theorem idx_at (n k : Int) (h : 0 ≤ (edZ n k).1) : idxZ n (edZ n k).2 (edZ n k).1 = k := by
  unfold edZ at h ⊢
  split at h
  · rename_i hc
    rw [if_pos hc]
    obtain ⟨h1, h2, h3⟩ := hc
    obtain ⟨b1, b2⟩ := inB_mem h1
    obtain ⟨m1, m2⟩ := edL_lt (n := n.toNat) (k := k.toNat) (by omega) (by omega)
    have e := ed_ix (n := n.toNat) (k := k.toNat) (by omega) (by omega)
    dsimp only
    unfold idxZ
    rw [if_pos ⟨h1, difB2_iff.2 ⟨⟨by omega, by omega⟩, ⟨by omega, by omega⟩, by omega⟩⟩, Int.toNat_natCast, Int.toNat_natCast, ix_swap, e]
    omega
  · exact absurd h (by decide)
theorem dc_parts {n a b c d : Int} {s : List UInt8} (h : dcB n s a b c d = true) : ∃ m p q u v : Nat, n = m ∧ a = p ∧ b = q ∧ c = u ∧ d = v ∧ aciB m s = true ∧ Dis m p q u v ∧ crA (sgnF (lookS m s)) p q u v = true := by
  unfold dcB at h
  rw [Bool.and_eq_true, Bool.and_eq_true] at h
  obtain ⟨h1, h2, h3⟩ := h
  obtain ⟨g1, g2, g3, g4, n1, n2, n3, n4, n5, n6⟩ := difB4.1 h2
  obtain ⟨m, rfl⟩ : ∃ m : Nat, n = m := ⟨n.toNat, by omega⟩
  obtain ⟨a, rfl⟩ : ∃ m : Nat, a = m := ⟨a.toNat, by omega⟩
  obtain ⟨b, rfl⟩ : ∃ m : Nat, b = m := ⟨b.toNat, by omega⟩
  obtain ⟨c, rfl⟩ : ∃ m : Nat, c = m := ⟨c.toNat, by omega⟩
  obtain ⟨d, rfl⟩ : ∃ m : Nat, d = m := ⟨d.toNat, by omega⟩
  unfold crsF at h3
  rw [Bool.and_eq_true] at h3
  exact ⟨m, a, b, c, d, rfl, rfl, rfl, rfl, rfl, h1, by unfold Dis; omega, by simpa using h3.2⟩
theorem dc_is {m p q u v : Nat} {s : List UInt8} (h : aciB m s = true) (hd : Dis m p q u v) : dcB m s p q u v = crA (sgnF (lookS m s)) p q u v := by
  obtain ⟨h1, h2, h3, h4, n1, n2, n3, n4, n5, n6⟩ := hd
  unfold dcB
  rw [h, difB4.2 ⟨⟨by omega, by omega⟩, ⟨by omega, by omega⟩, ⟨by omega, by omega⟩, ⟨by omega, by omega⟩, by omega, by omega, by omega, by omega, by omega, by omega⟩]
  simp only [Int.toNat_natCast, Bool.true_and]
  unfold crsF
  rw [beq_false_of_ne n2, beq_false_of_ne n3, beq_false_of_ne n4, beq_false_of_ne n5]
  rfl
/-- Edges that cross: the other way round as well; the other pairs of the four don't. -/
theorem dc_facts {n a b c d : Int} {s : List UInt8} (h : dcB n s a b c d = true) : dcB n s a c b d = false ∧ dcB n s c d b a = true := by
  obtain ⟨m, p, q, u, v, rfl, rfl, rfl, rfl, rfl, hac, hd, hc⟩ := dc_parts h
  have d2 := dis_s2 hd
  have d3 := dis_rot (dis_s1 hd)
  refine ⟨by rw [dc_is hac d2]; exact crA_not hac hd hc, ?_⟩
  rw [dc_is hac d3, crA_rot hac (dis_s1 hd), crA_s1 hac hd]
  exact hc
end Go.Proofs.YtinlnafkmoabbaaGreatDoor.Sg
