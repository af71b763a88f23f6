/- Several texts in one: KrFacts, TrFacts. -/
import Derived.Test.YtinlnafkmoabbaaGreatDoorDrKrCase
import Derived.Test.YtinlnafkmoabbaaGreatDoorQuFacts
import Derived.Test.YtinlnafkmoabbaaGreatDoorMgTr
import Derived.Test.YtinlnafkmoabbaaGreatDoorMgTd
/- What FnCrossings asks of the answers, on plain functions; laws.size of a set of edges. -/
namespace Go.Proofs.YtinlnafkmoabbaaGreatDoor.Sg
open Go.RowKit Pt NewI
/-- How many elements a set of at most f bits has. -/
def szF : Nat → Nat → Nat
  | 0, _ => 0
  | f + 1, S => S % 2 + szF f (S / 2)
theorem szF_zero : ∀ f, szF f 0 = 0
  | 0 => rfl
  | f + 1 => by show 0 % 2 + szF f (0 / 2) = 0; rw [show 0 / 2 = 0 from rfl, szF_zero f]
theorem szF_le : ∀ f S, szF f S ≤ f
  | 0, _ => Nat.le_refl _
  | f + 1, S => by
    have := szF_le f (S / 2)
    show S % 2 + szF f (S / 2) ≤ _
    omega
theorem szF_is : ∀ f S, szF f S = (List.range f).countP fun k => S.testBit k
  | 0, _ => rfl
  | f + 1, S => by
    rw [List.range_succ_eq_map, List.countP_cons, List.countP_map]
    show S % 2 + szF f (S / 2) = _
    rw [szF_is f (S / 2)]
    have e : ((fun k => S.testBit k) ∘ Nat.succ) = fun k => (S / 2).testBit k := by
      funext k
      show S.testBit (k + 1) = _
      rw [Nat.testBit_succ]
    rw [e, Nat.testBit_zero]
    rcases Nat.mod_two_eq_zero_or_one S with h | h <;> rw [h] <;> simp <;> omega
set_option maxHeartbeats 800000 in
set_option maxRecDepth 100000 in
theorem sizeE_any (S : Nat) (hS : S < 2097152) (w : World) :
    Calls Tryz.prog 26 #[.int .i64 S] w fun e w' => e = .returned (.int .i64 (szF 21 S : Nat)) ∧ w = w' := by
  have HST : Hid (∀ f k, szF (f + 1) k = k % 2 + szF f (k / 2)) := Lib.hid (fun _ _ => rfl)
  have HZ := Lib.hid szF_zero
  have HLE := Lib.hid (szF_le 21 S)
  have H0 : Hid (0 + szF 21 S = szF 21 S) := Lib.hid (Nat.zero_add _)
  generalize hR : szF 21 S = R at HLE H0 ⊢
  rw [← hR] at H0
  have HR := Lib.hid hR
  clear hR
  go_enter Tryz.func26, Tryz.ntmps26
  go_wp2
  go_loop [0, 3] (fun x sv => ∃ k t f : Nat, x = .int .i64 k ∧ sv = .int .i64 t ∧ k < 2097152 ∧ t ≤ 21 ∧ Hid (k < 2 ^ f) ∧ Hid (t + szF f k = R)) (fun x _ => (intOf x).toNat)
  case atStart => exact ⟨S, 0, 21, rfl, rfl, hS, by omega, Lib.hid (by omega), Lib.hid (by rw [Nat.zero_add]; exact HR.out)⟩
  case round =>
    obtain ⟨k, t, f, rfl, rfl, hk, ht, HF, HT⟩ := hrel
    by_cases hz : k = 0
    · subst hz
      have HE : Hid (t = R) := Lib.hid (by have := HT.out; rw [HZ.out] at this; omega)
      clear HT HF
      go_wp2
      go_ret
      exact ⟨ret_int (by rw [HE.out]), rfl⟩
    · obtain ⟨f, rfl⟩ : ∃ g, f = g + 1 := ⟨f - 1, by
        have := HF.out
        rcases f with _ | f
        · simp at this; omega
        · rfl⟩
      have HT2 : Hid (t + k % 2 + szF f (k / 2) = R) := Lib.hid (by have := HT.out; rw [HST.out] at this; omega)
      have HF2 : Hid (k / 2 < 2 ^ f) := Lib.hid (by have := HF.out; rw [Nat.pow_succ] at this; omega)
      have ht2 : t + k % 2 ≤ 21 := by have := HT2.out; have := HLE.out; omega
      have hk2 : k / 2 < 2097152 := by omega
      have hkp : 0 < k := by omega
      clear HT HF
      go_wp2
      go_round
      case rel => exact ⟨k / 2, t + k % 2, f, by go_num, by go_num, hk2, ht2, HF2, HT2⟩
      case measure => simp only [intOf]; omega
section
variable {n : Nat} {s : List UInt8}
theorem cp_in (h : aciB n s = true) (S : Nat) (hS : S < 2 ^ eN n) : cpZ n s S = (prN (sgnF (lookS n s)) n S : Nat) := by
  obtain ⟨h3, h7⟩ := aciB_n h
  have hin : inB (S : Int) 0 (allZ n) = true := by
    unfold allZ
    rw [if_pos (inB_yes h3 h7), Int.toNat_natCast]
    exact inB_yes (by omega) (by omega)
  unfold cpZ
  rw [if_pos ⟨h, hin⟩, Int.toNat_natCast, Int.toNat_natCast]
end
end Go.Proofs.YtinlnafkmoabbaaGreatDoor.Sg
/- What FnTriangulations asks of the answers, on plain functions. -/
namespace Go.Proofs.YtinlnafkmoabbaaGreatDoor.Sg
open Go.RowKit Pt NewI
section
variable {n : Nat} {s : List UInt8}
theorem in_inG (h : aciB n s = true) {p a b c : Nat} (hd : Dis n p a b c) : isIn (cir (sgnF (lookS n s)) p a b c) = inG (sgS n s) p a b c := by
  rw [Bool.eq_iff_iff]
  have := in_cyc h hd
  unfold In Cyc at this
  rw [this]
  unfold inG sgS
  rw [Bool.and_eq_true, beq_iff_eq, beq_iff_eq]
theorem in_sorted (h : aciB n s = true) {p a b c : Nat} (hi : In n s p a b c) : ∃ t ∈ threes n, In n s p t.1 t.2.1 t.2.2 := by
  have h7 := (aciB_n h).2
  have hd := in_dis h hi
  unfold Dis at hd
  have mk : ∀ x y z : Nat, x < y → y < z → z < n → In n s p x y z → ∃ t ∈ threes n, In n s p t.1 t.2.1 t.2.2 := fun x y z h1 h2 h3 hi => ⟨(x, y, z), threes_in (by omega) h1 h2 h3, hi⟩
  rcases Nat.lt_or_ge a b with ab | ab
  · rcases Nat.lt_or_ge b c with bc | bc
    · exact mk a b c ab bc (by omega) hi
    · rcases Nat.lt_or_ge a c with ac | ac
      · exact mk a c b ac (by omega) (by omega) (in_s2 h hi)
      · exact mk c a b (by omega) ab (by omega) (in_s1 h (in_s2 h hi))
  · rcases Nat.lt_or_ge b c with bc | bc
    · rcases Nat.lt_or_ge a c with ac | ac
      · exact mk b a c (by omega) ac (by omega) (in_s1 h hi)
      · exact mk b c a bc (by omega) (by omega) (in_s2 h (in_s1 h hi))
    · exact mk c b a (by omega) (by omega) (by omega) (in_s1 h (in_s2 h (in_s1 h hi)))
theorem ext_exG (h : aciB n s = true) {p : Nat} (hp : p < n) : (extS (sgnF (lookS n s)) n (2 ^ n - 1)).testBit p = exG (sgS n s) n p := by
  have h7 := (aciB_n h).2
  rw [Bool.eq_iff_iff, ext_iff h]
  unfold exG
  rw [List.all_eq_true]
  constructor
  · intro he t ht
    obtain ⟨t1, t2, t3⟩ := threes_mem (by omega) ht
    by_cases hs : t.1 = p ∨ t.2.1 = p ∨ t.2.2 = p
    · rcases hs with e | e | e <;> simp [e]
    · have hd : Dis n p t.1 t.2.1 t.2.2 := by unfold Dis; omega
      have hn := he.2 t.1 t.2.1 t.2.2 (by omega) (by omega) t3
      unfold In at hn
      rw [in_inG h hd] at hn
      cases hg : inG (sgS n s) p t.1 t.2.1 t.2.2
      · simp
      · exact absurd hg hn
  · intro ha
    refine ⟨hp, fun a b c _ _ _ hi => ?_⟩
    obtain ⟨t, ht, hi2⟩ := in_sorted h hi
    have hd := in_dis h hi2
    have h1 := ha t ht
    unfold In at hi2
    rw [in_inG h hd] at hi2
    unfold Dis at hd
    rw [hi2] at h1
    simp at h1
    omega
theorem hul_hsz (h : aciB n s = true) : ((hulG (sgS n s) n : Nat) : Int) = hszZ n s := by
  have h7 := (aciB_n h).2
  have h7 : n ≤ 7 := by omega
  unfold hszZ hulG setsTo
  rw [if_pos h, List.length_map, Int.toNat_natCast, ← List.countP_eq_length_filter]
  have e1 : allS (n : Int) = 2 ^ n - 1 := by unfold allS; rw [Int.toNat_natCast]
  rw [e1]
  congr 1
  have e2 : List.range 7 = List.range n ++ (List.range (7 - n)).map (n + ·) := by
    rw [← List.range_add, show n + (7 - n) = 7 by omega]
  rw [e2, List.countP_append, List.countP_map]
  have e3 : (List.range (7 - n)).countP ((extS (sgnF (lookS n s)) n (2 ^ n - 1)).testBit ∘ (n + ·)) = 0 := by
    rw [List.countP_eq_zero]
    intro x hx hb
    have hb : (extS (sgnF (lookS n s)) n (2 ^ n - 1)).testBit (n + x) = true := hb
    have := ((ext_iff h (n + x)).1 hb).1
    omega
  rw [e3, Nat.add_zero]
  refine List.countP_congr fun p hp => ?_
  rw [ext_exG h (List.mem_range.1 hp)]
theorem trQ_triG (h : aciB n s = true) (T : Nat) {t : T3} (ht : t ∈ threes n) : trQ (sgnF (lookS n s)) n T t = triG (sgS n s) n T t := by
  have h7 := (aciB_n h).2
  have h7 : n ≤ 7 := by omega
  obtain ⟨t1, t2, t3⟩ := threes_mem h7 ht
  unfold trQ triG
  rw [ixO_is h7 t1 (by omega), ixO_is h7 t2 t3, ixO_is h7 (by omega) t3]
  have e : (cntI (sgnF (lookS n s)) t.1 t.2.1 t.2.2 n == 0) = (List.range n).all fun p => p == t.1 || (p == t.2.1 || (p == t.2.2 || !inG (sgS n s) p t.1 t.2.1 t.2.2)) := by
    rw [Bool.eq_iff_iff, beq_iff_eq, List.all_eq_true]
    unfold cntI
    rw [List.countP_eq_zero]
    constructor
    · intro hz p hp
      have hp2 := List.mem_range.1 hp
      by_cases hs : p = t.1 ∨ p = t.2.1 ∨ p = t.2.2
      · rcases hs with e | e | e <;> simp [e]
      · have hd : Dis n p t.1 t.2.1 t.2.2 := by unfold Dis; omega
        have := hz p hp
        rw [in_inG h hd] at this
        cases hg : inG (sgS n s) p t.1 t.2.1 t.2.2
        · simp
        · exact absurd hg this
    · intro hz p hp hi
      have hd := in_dis h (p := p) (a := t.1) (b := t.2.1) (c := t.2.2) hi
      have h1 := hz p hp
      rw [in_inG h hd] at hi
      unfold Dis at hd
      rw [hi] at h1
      simp at h1
      omega
  rw [e]
  simp only [Bool.and_assoc]
theorem free_full (h : aciB n s = true) {T : Nat} (hT : fullB (cS n s) (eN n) T = true) : freeE (sgnF (lookS n s)) n &&& T = freeE (sgnF (lookS n s)) n := by
  have h7 := (aciB_n h).2
  have h7 : n ≤ 7 := by omega
  refine Nat.eq_of_testBit_eq fun x => ?_
  rw [Nat.testBit_and]
  cases hb : (freeE (sgnF (lookS n s)) n).testBit x
  · rfl
  · unfold freeE at hb
    rw [setN_bit, Bool.and_eq_true, decide_eq_true_eq] at hb
    obtain ⟨hx, hf⟩ := hb
    have hc : cS n s x = 0 := by
      show crC (sgS n s) n x = 0
      rw [← crS_crC h hx]
      unfold crS
      refine Nat.eq_of_testBit_eq fun y => ?_
      rw [setN_bit, Nat.zero_testBit]
      by_cases hy : y < eN n
      · unfold fB frB at hf
        have := List.all_eq_true.1 hf _ (edL_mem h7 hy)
        unfold crE
        dsimp only
        rw [Bool.not_eq_true'] at this
        rw [this, Bool.and_false]
      · rw [decide_eq_false hy, Bool.false_and]
    rw [fullB_iff.1 hT x hx, hc, Nat.zero_and]
    rfl
theorem itB_mk (h : aciB n s = true) (h6 : n ≤ 6) {T : Nat} (ht : T < 2 ^ eN n) (hf : fullB (cS n s) (eN n) T = true) : itB n s T = true := by
  obtain ⟨h3, -⟩ := aciB_n h
  obtain ⟨K, hK, -, hK2⟩ := allZ_nat6 (n := n) (by omega) h6
  unfold itB fitB
  rw [h, decide_eq_true (by omega), hK, inB_yes (by omega) (by omega), Int.toNat_natCast, Int.toNat_natCast, hf]
  rfl
theorem size_szF {T : Nat} (hE : eN n ≤ 21) (hT : T < 2 ^ eN n) : szF 21 T = sizE (eN n) T := by
  rw [szF_is]
  unfold sizE
  have e2 : List.range 21 = List.range (eN n) ++ (List.range (21 - eN n)).map (eN n + ·) := by
    rw [← List.range_add, show eN n + (21 - eN n) = 21 by omega]
  rw [e2, List.countP_append, List.countP_map]
  have e3 : (List.range (21 - eN n)).countP ((fun k => T.testBit k) ∘ (eN n + ·)) = 0 := by
    rw [List.countP_eq_zero]
    intro x hx hb
    have hb : T.testBit (eN n + x) = true := hb
    rw [Nat.testBit_lt_two_pow (Nat.lt_of_lt_of_le hT (Nat.pow_le_pow_right (by omega) (by omega)))] at hb
    cases hb
  rw [e3, Nat.add_zero]
end
theorem tri_facts {n : Int} {s : List UInt8} {U : Nat} (hU : U ∈ triZ n s) : U < 2097152 ∧ ((szF 21 U : Nat) : Int) = 3 * n - 3 - hszZ n s ∧ itB n s U = true ∧ trsZ n s U = 2 * n - 2 - hszZ n s ∧ bits BinOp.andNot IntKind.i64 (frZ n s) U = 0 := by
  unfold triZ at hU
  split at hU
  · rename_i hf
    obtain ⟨h, h6⟩ := fitB_n hf
    obtain ⟨h3, -⟩ := aciB_n h
    obtain ⟨m, rfl⟩ : ∃ m : Nat, n = m := ⟨n.toNat, by omega⟩
    rw [Int.toNat_natCast] at hU
    have hE := eN_bd m (by omega)
    have hpE := Nat.pow_le_pow_right (n := 2) (by omega) hE
    obtain ⟨k1, k2⟩ := mem_triL.1 hU
    obtain ⟨-, hm, -⟩ := tri_main h (by omega)
    obtain ⟨m1, m2⟩ := hm U hU
    have hh := hul_hsz h
    have hit := itB_mk h (by omega) k2 k1
    have hlt : U < 2097152 := by omega
    refine ⟨hlt, ?_, hit, ?_, ?_⟩
    · rw [size_szF hE k2]; omega
    · unfold trsZ
      rw [if_pos hit, Int.toNat_natCast, Int.toNat_natCast, List.countP_congr (q := triG (sgS m s) m U) fun t ht => by rw [trQ_triG h U ht]]
      omega
    · have e : frZ m s = (freeE (sgnF (lookS m s)) m : Nat) := by unfold frZ; rw [if_pos h, Int.toNat_natCast]
      have hfl : freeE (sgnF (lookS m s)) m < 2097152 := by
        have := setN_lt (fB (sgnF (lookS m s)) m) (eN m)
        unfold freeE
        omega
      rw [e, (Cur.bits_andNot2 _ _ hfl hlt).1, free_full h k1, Nat.xor_self]
      rfl
  · cases hU
theorem dist_facts {n b c : Int} {s : List UInt8} (hb : itB n s b = true) (hc : itB n s c = true) : 0 ≤ fdZ n s b c ∧ fdZ n s c b = fdZ n s b c ∧ (fdZ n s b c = 0 ↔ b = c) := by
  obtain ⟨m, t, rfl, rfl, h, m3, m6, ht, hft⟩ := itB_parts hb
  obtain ⟨m', u, e1, rfl, -, -, -, hu, hfu⟩ := itB_parts hc
  obtain rfl : m = m' := by omega
  unfold fdZ
  rw [if_pos ⟨hb, hc⟩, if_pos ⟨hc, hb⟩, Int.toNat_natCast, Int.toNat_natCast, Int.toNat_natCast]
  obtain ⟨-, -, hcn⟩ := tri_main h m6
  obtain ⟨d, hw⟩ := hcn t (mem_triL.2 ⟨hft, ht⟩) u (mem_triL.2 ⟨hfu, hu⟩)
  refine ⟨distZ_nonneg hw, distZ_sym nbT_sym, ?_⟩
  rw [distZ_zero]
  omega
theorem ff_facts {n a : Int} {s : List UInt8} {f : Nat} (hf : f ∈ ffZ n s a) : f < 2097152 ∧ itB n s a = true ∧ itB n s f = true ∧ fdZ n s a f = 1 ∧ ∃ t : Nat, a = t ∧ t ∈ ffZ n s f := by
  unfold ffZ at hf
  split at hf
  · rename_i ha
    obtain ⟨m, t, rfl, rfl, h, m3, m6, ht, hft⟩ := itB_parts ha
    rw [Int.toNat_natCast, Int.toNat_natCast] at hf
    have hE := eN_bd m (by omega)
    have hpE := Nat.pow_le_pow_right (n := 2) (by omega) hE
    have hfl := mem_flipsL.1 hf
    obtain ⟨g1, g2, g3⟩ := fl_sym hft hfl
    have hlt : f < 2 ^ eN m := fl_lt hft ht hfl
    have hif := itB_mk h m6 hlt g1
    refine ⟨by omega, ha, hif, ?_, t, rfl, ?_⟩
    · unfold fdZ
      rw [if_pos ⟨ha, hif⟩, Int.toNat_natCast, Int.toNat_natCast, Int.toNat_natCast]
      refine distZ_one ?_ g3
      unfold nbT
      rw [if_pos hft]
      exact hf
    · unfold ffZ
      rw [if_pos hif, Int.toNat_natCast, Int.toNat_natCast]
      exact mem_flipsL.2 g2
  · cases hf
theorem flip_in {n a k : Int} {s : List UInt8} (h : (flipZ n s a k).2 = true) : (flipZ n s a k).1 ∈ ffZ n s a := by
  unfold flipZ at h ⊢
  split at h
  · rename_i hh
    obtain ⟨h1, h2, h3⟩ := hh
    rw [if_pos ⟨h1, h2, h3⟩]
    unfold ffZ
    rw [if_pos h1]
    obtain ⟨m, t, rfl, rfl, hac, m3, m6, ht, hft⟩ := itB_parts h1
    rw [Int.toNat_natCast, Int.toNat_natCast] at *
    refine mem_flipsL.2 ⟨k.toNat, ?_, h3, Prod.ext rfl h⟩
    rcases Nat.lt_or_ge k.toNat (eN m) with hk | hk
    · exact hk
    · rw [Nat.testBit_lt_two_pow (Nat.lt_of_lt_of_le ht (Nat.pow_le_pow_right (by omega) hk))] at h3
      cases h3
  · cases h
theorem tri_some (n : Int) (s : List UInt8) : (aciB n s && decide (n ≤ 6)) = decide (0 < (triZ n s).length) := by
  unfold triZ
  cases hf : fitB n s
  · have : (aciB n s && decide (n ≤ 6)) = false := by unfold fitB at hf; rw [Bool.and_comm]; exact hf
    rw [this]
    rfl
  · obtain ⟨h, h6⟩ := fitB_n hf
    obtain ⟨h3, -⟩ := aciB_n h
    obtain ⟨m, rfl⟩ : ∃ m : Nat, n = m := ⟨n.toNat, by omega⟩
    obtain ⟨hne, -⟩ := tri_main h (by omega)
    rw [h, decide_eq_true h6, if_pos rfl, Int.toNat_natCast]
    exact (decide_eq_true (List.length_pos_iff.2 hne)).symm
theorem triZ_len15 (n : Int) (s : List UInt8) : (zl (triZ n s)).length ≤ 32768 := by
  rw [zl_length]
  unfold triZ
  split
  · rename_i h
    obtain ⟨h1, h6⟩ := fitB_n h
    obtain ⟨h3, -⟩ := aciB_n h1
    obtain ⟨m, rfl⟩ : ∃ m : Nat, n = m := ⟨n.toNat, by omega⟩
    rw [Int.toNat_natCast]
    have hl : (triL (cS m s) (eN m)).length ≤ 2 ^ eN m := allT_len _ _ _ _
    have : eN m ≤ 15 := by
      rcases (by omega : m = 3 ∨ m = 4 ∨ m = 5 ∨ m = 6) with rfl | rfl | rfl | rfl <;> decide +kernel
    have := Nat.pow_le_pow_right (n := 2) (by omega) this
    omega
  · simp
theorem ffZ_len (n : Int) (s : List UInt8) (T : Int) : (zl (ffZ n s T)).length ≤ 21 := by
  rw [zl_length]
  unfold ffZ
  split
  · rename_i h
    obtain ⟨m, t, rfl, rfl, h, m3, m6, -⟩ := itB_parts h
    rw [Int.toNat_natCast, Int.toNat_natCast]
    have := flipsTo_len (cS m s) (eN m) t (eN m)
    have hE := eN_bd m (by omega)
    exact Nat.le_trans this hE
  · simp
end Go.Proofs.YtinlnafkmoabbaaGreatDoor.Sg
