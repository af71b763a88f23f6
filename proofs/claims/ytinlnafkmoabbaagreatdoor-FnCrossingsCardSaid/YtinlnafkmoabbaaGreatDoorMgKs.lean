/- Several texts in one: KsMath, KsEdge, KsDo, KsElt, KsCr, KsPairs, KsSets. -/
import Derived.Test.YtinlnafkmoabbaaGreatDoorMgKr
import Derived.Test.YtinlnafkmoabbaaGreatDoorMgTz
import Derived.Deep.RegionLaw
/- Crossings, as impl tells them, on plain functions: the circuit of crossing edges, the list of crossing pairs, sets of edges. -/
namespace Go.Proofs.YtinlnafkmoabbaaGreatDoor.Sg
open Go.RowKit Pt NewI
theorem bits_orE (a b : Nat) (ha : a < 2097152) (hb : b < 2097152) : bits BinOp.or IntKind.i64 (a : Int) (b : Int) = ((a ||| b : Nat) : Int) := by
  have hl : a ||| b < 2097152 := Nat.or_lt_two_pow (n := 21) ha hb
  show IntKind.i64.wrap ((BitVec.ofInt 64 a ||| BitVec.ofInt 64 b).toNat : Int) = _
  rw [BitVec.toNat_or, BitVec.ofInt_natCast, BitVec.ofInt_natCast, BitVec.toNat_ofNat, BitVec.toNat_ofNat, Nat.mod_eq_of_lt (by omega), Nat.mod_eq_of_lt (by omega), IntKind.wrap_i64]
  omega
theorem bits_andE (a b : Nat) (ha : a < 2097152) (hb : b < 2097152) : bits BinOp.and IntKind.i64 (a : Int) (b : Int) = ((a &&& b : Nat) : Int) := by
  have hl : a &&& b < 2097152 := Nat.and_lt_two_pow (n := 21) a hb
  show IntKind.i64.wrap ((BitVec.ofInt 64 a &&& BitVec.ofInt 64 b).toNat : Int) = _
  rw [BitVec.toNat_and, BitVec.ofInt_natCast, BitVec.ofInt_natCast, BitVec.toNat_ofNat, BitVec.toNat_ofNat, Nat.mod_eq_of_lt (by omega), Nat.mod_eq_of_lt (by omega), IntKind.wrap_i64]
  omega
theorem bits_andNotE (a b : Nat) (ha : a < 2097152) (hb : b < 2097152) : bits BinOp.andNot IntKind.i64 (a : Int) (b : Int) = ((a ^^^ (a &&& b) : Nat) : Int) ∧ a ^^^ (a &&& b) < 2097152 := by
  have hl : a ^^^ (a &&& b) < 2097152 := Nat.xor_lt_two_pow (n := 21) ha (Nat.and_lt_two_pow (n := 21) a hb)
  refine ⟨?_, hl⟩
  show IntKind.i64.wrap ((BitVec.ofInt 64 a &&& ~~~ BitVec.ofInt 64 b).toNat : Int) = _
  have hx : (BitVec.ofInt 64 (a : Int) &&& ~~~ BitVec.ofInt 64 (b : Int)) = BitVec.ofInt 64 (a : Int) ^^^ (BitVec.ofInt 64 (a : Int) &&& BitVec.ofInt 64 (b : Int)) := by
    ext i hi
    simp only [BitVec.getElem_and, BitVec.getElem_not, BitVec.getElem_xor]
    cases (BitVec.ofInt 64 (a : Int))[i] <;> cases (BitVec.ofInt 64 (b : Int))[i] <;> rfl
  rw [hx, BitVec.toNat_xor, BitVec.toNat_and, BitVec.ofInt_natCast, BitVec.ofInt_natCast, BitVec.toNat_ofNat, BitVec.toNat_ofNat, Nat.mod_eq_of_lt (by omega), Nat.mod_eq_of_lt (by omega), IntKind.wrap_i64]
  omega
theorem shl_edge (x : Nat) (hx : x < 21) : IntKind.i64.wrap ((2 : Int) ^ x) = ((2 ^ x : Nat) : Int) ∧ 2 ^ x < 2097152 := by
  have h : 2 ^ x < 2097152 := Nat.pow_lt_pow_right (a := 2) (by omega) hx
  have e : ((2 : Int) ^ x) = ((2 ^ x : Nat) : Int) := by push_cast; rfl
  rw [e]
  generalize (2 : Nat) ^ x = A at h
  exact ⟨IntWalk.i64_in _ (by omega), h⟩
/-- The circuit of two edges that cross. -/
def isX (x : Int × Int × Int × Int) : Bool := x.1 == 1 && (x.2.1 == 1 && (x.2.2.1 == -1 && x.2.2.2 == -1))
theorem isX_zero {v0 v1 v2 v3 : Int} (h : v0 = 0 ∨ v1 = 0 ∨ v2 = 0 ∨ v3 = 0) : isX (v0 * v0, -v1 * v0, v2 * v0, -v3 * v0) = false := by
  unfold isX
  dsimp only
  rcases h with rfl | rfl | rfl | rfl
  · simp
  · simp
  · simp
  · simp
theorem isX_bits : ∀ w x y z : Bool, isX (cv4 (sg1 w) (sg1 x) (sg1 y) (sg1 z)) = ((x == !w) && (!(y == w) && !(z == !w))) := by decide
section
variable {n : Nat} {s : List UInt8}
theorem isX_cr (h : aciB n s = true) {a b c d : Nat} (hd : Dis n a b c d) : isX (cir (sgnF (lookS n s)) a b c d) = crA (sgnF (lookS n s)) a b c d := by
  have h7 := (aciB_n h).2
  have hd0 := hd
  unfold Dis at hd
  obtain ⟨w, x, y, z, e0, e1, e2, e3, -⟩ := in_bits h hd0
  unfold sgS at e0 e1 e2 e3
  have key := crI_all
  simp only [List.all_eq_true, List.mem_range] at key
  have k := key a (by omega) b (by omega) c (by omega) d (by omega) (x == !w) (by cases x <;> cases w <;> simp) (y == w) (by cases y <;> cases w <;> simp) (z == !w) (by cases z <;> cases w <;> simp)
  unfold crI at k
  have hc : cir (sgnF (lookS n s)) a b c d = cv4 (sg1 w) (sg1 x) (sg1 y) (sg1 z) := cir_of e0 e1 e2 e3
  unfold crA
  rw [hc, isX_bits, cv4_bools]
  have hne : (a == b || a == c || a == d || b == c || b == d || c == d) = false := by simp; omega
  rw [hne, Bool.false_or, beq_iff_eq] at k
  rw [k]
theorem isX_out (h : arB n s = true) {a b c d : Int} (hd : difB n [a, b, c, d] = false) : isX (cir (sgnF (lookS n s)) a b c d) = false := by
  cases hx : isX (cir (sgnF (lookS n s)) a b c d)
  · rfl
  · exfalso
    have hz : ¬ (sgnF (lookS n s) b c d = 0 ∨ sgnF (lookS n s) a c d = 0 ∨ sgnF (lookS n s) a b d = 0 ∨ sgnF (lookS n s) a b c = 0) := fun e => by
      have := isX_zero e
      have e2 : cir (sgnF (lookS n s)) a b c d = (sgnF (lookS n s) b c d * sgnF (lookS n s) b c d, -sgnF (lookS n s) a c d * sgnF (lookS n s) b c d, sgnF (lookS n s) a b d * sgnF (lookS n s) b c d, -sgnF (lookS n s) a b c * sgnF (lookS n s) b c d) := rfl
      rw [e2, this] at hx
      cases hx
    have k : ∀ i j k : Int, sgnF (lookS n s) i j k ≠ 0 → (0 ≤ i ∧ i < n) ∧ (0 ≤ j ∧ j < n) ∧ (0 ≤ k ∧ k < n) ∧ i ≠ j ∧ j ≠ k ∧ i ≠ k := fun i j k hne => Classical.byContradiction fun hb => hne (sgnF_bad h hb)
    have k1 := k b c d (fun e => hz (.inl e))
    have k2 := k a c d (fun e => hz (.inr (.inl e)))
    have k3 := k a b d (fun e => hz (.inr (.inr (.inl e))))
    have : difB n [a, b, c, d] = true := difB4.2 (by omega)
    rw [this] at hd
    cases hd
end
/-- The circuit tells what DoCross answers. -/
theorem isX_dc (n : Int) (s : List UInt8) (a b c d : Int) : isX (cir (sgnF (ordF n s)) a b c d) = dcB n s a b c d := by
  cases h : aciB n s
  · have e : cir (sgnF (ordF n s)) a b c d = (0 * 0, -0 * 0, 0 * 0, -0 * 0) := cir_of (sgnO_no h _ _ _) (sgnO_no h _ _ _) (sgnO_no h _ _ _) (sgnO_no h _ _ _)
    unfold dcB
    rw [e, h, isX_zero (.inl rfl)]
    rfl
  · obtain ⟨h3, h7⟩ := aciB_n h
    obtain ⟨m, rfl⟩ : ∃ m : Nat, n = m := ⟨n.toNat, by omega⟩
    rw [ordF_yes h]
    unfold dcB
    rw [h, Bool.true_and]
    cases hd : difB m [a, b, c, d]
    · rw [isX_out (matB_ar (aciB_mat h)) hd]; rfl
    · obtain ⟨g1, g2, g3, g4, n1, n2, n3, n4, n5, n6⟩ := difB4.1 hd
      obtain ⟨a, rfl⟩ : ∃ m : Nat, a = m := ⟨a.toNat, by omega⟩
      obtain ⟨b, rfl⟩ : ∃ m : Nat, b = m := ⟨b.toNat, by omega⟩
      obtain ⟨c, rfl⟩ : ∃ m : Nat, c = m := ⟨c.toNat, by omega⟩
      obtain ⟨d, rfl⟩ : ∃ m : Nat, d = m := ⟨d.toNat, by omega⟩
      rw [isX_cr h (by unfold Dis; omega)]
      simp only [Int.toNat_natCast, Bool.true_and]
      unfold crsF
      rw [beq_false_of_ne (show a ≠ c by omega), beq_false_of_ne (show a ≠ d by omega), beq_false_of_ne (show b ≠ c by omega), beq_false_of_ne (show b ≠ d by omega)]
      rfl
/-- Of two edges: do they cross, by the circuit? -/
def crX (F : Int → Int → Int → Int) (n : Nat) (p : Nat × Nat) : Bool := isX (cir F ((edL n p.1).1 : Nat) ((edL n p.1).2 : Nat) ((edL n p.2).1 : Nat) ((edL n p.2).2 : Nat))
def crE (F : Int → Int → Int → Int) (n : Nat) (p : Nat × Nat) : Bool := crsF F (edL n p.1).1 (edL n p.1).2 (edL n p.2).1 (edL n p.2).2
section
variable {n : Nat} {s : List UInt8}
theorem crX_crE (h : aciB n s = true) {p : Nat × Nat} (h1 : p.1 < eN n) (h2 : p.2 < eN n) : crX (sgnF (lookS n s)) n p = crE (sgnF (lookS n s)) n p := by
  have h7 := (aciB_n h).2
  obtain ⟨a1, a2⟩ := edL_lt (n := n) (by omega) h1
  obtain ⟨b1, b2⟩ := edL_lt (n := n) (by omega) h2
  unfold crX crE
  generalize edL n p.1 = u at *
  generalize edL n p.2 = v at *
  obtain ⟨a, b⟩ := u
  obtain ⟨c, d⟩ := v
  dsimp only at *
  cases hd : difB n [(a : Int), (b : Int), (c : Int), (d : Int)]
  · rw [isX_out (matB_ar (aciB_mat h)) hd]
    refine (crs_same ?_).symm
    refine Classical.byContradiction fun hn => ?_
    have : difB n [(a : Int), (b : Int), (c : Int), (d : Int)] = true := difB4.2 (by omega)
    rw [this] at hd
    cases hd
  · obtain ⟨g1, g2, g3, g4, n1, n2, n3, n4, n5, n6⟩ := difB4.1 hd
    rw [isX_cr h (by unfold Dis; omega)]
    unfold crsF
    rw [beq_false_of_ne (show a ≠ c by omega), beq_false_of_ne (show a ≠ d by omega), beq_false_of_ne (show b ≠ c by omega), beq_false_of_ne (show b ≠ d by omega)]
    rfl
theorem crE_sym (h : aciB n s = true) {x y : Nat} (h1 : x < eN n) (h2 : y < eN n) : crE (sgnF (lookS n s)) n (y, x) = crE (sgnF (lookS n s)) n (x, y) := by
  have h7 := (aciB_n h).2
  obtain ⟨a1, a2⟩ := edL_lt (n := n) (by omega) h1
  obtain ⟨b1, b2⟩ := edL_lt (n := n) (by omega) h2
  unfold crE
  dsimp only
  generalize edL n x = u at *
  generalize edL n y = v at *
  obtain ⟨a, b⟩ := u
  obtain ⟨c, d⟩ := v
  dsimp only at *
  by_cases hs : a = c ∨ a = d ∨ b = c ∨ b = d
  · rw [crs_same hs, crs_same (by omega)]
  · unfold crsF
    rw [beq_false_of_ne (show a ≠ c by omega), beq_false_of_ne (show a ≠ d by omega), beq_false_of_ne (show b ≠ c by omega), beq_false_of_ne (show b ≠ d by omega), beq_false_of_ne (show c ≠ a by omega), beq_false_of_ne (show c ≠ b by omega), beq_false_of_ne (show d ≠ a by omega), beq_false_of_ne (show d ≠ b by omega), crA_rot h (by unfold Dis; omega)]
theorem crE_same (F : Int → Int → Int → Int) (n x : Nat) : crE F n (x, x) = false := crs_same (.inl rfl)
end
/-- The set of the two edges of a pair of numbers; the pairs ahead of (x, y); the sets of those that cross. -/
def codeE (p : Nat × Nat) : Nat := 2 ^ p.1 ||| 2 ^ p.2
def idxA (x y : Nat) : List (Nat × Nat) := ((List.range x).flatMap fun x => (List.range x).map fun y => (x, y)) ++ (List.range y).map fun y => (x, y)
def cxL (q : Nat × Nat → Bool) (L : List (Nat × Nat)) : List Nat := (L.filter q).map codeE
theorem idxA_y (x y : Nat) : idxA x (y + 1) = idxA x y ++ [(x, y)] := by
  unfold idxA
  rw [List.range_succ, List.map_append, List.append_assoc]
  rfl
theorem idxA_x (x : Nat) : idxA (x + 1) 0 = idxA x x := by
  unfold idxA
  rw [List.range_succ, List.flatMap_append]
  simp
theorem idxA_0 : idxA 0 0 = [] := rfl
theorem idxA_all (n : Nat) : idxA (eN n) 0 = idxs n := by
  unfold idxA idxs
  simp
theorem idxA_len : ∀ x, x ≤ 21 → (idxA x 0).length ≤ 21 * x
  | 0, _ => by rw [idxA_0]; simp
  | x + 1, h => by
    have ih := idxA_len x (by omega)
    rw [idxA_x]
    have e : (idxA x x).length = (idxA x 0).length + x := by unfold idxA; simp
    omega
theorem idxA_le {x y : Nat} (hx : x ≤ 21) (hy : y ≤ x) : (idxA x y).length ≤ 462 := by
  have := idxA_len x hx
  have e : (idxA x y).length = (idxA x 0).length + y := by unfold idxA; simp
  omega
theorem cxL_snoc (q : Nat × Nat → Bool) (L : List (Nat × Nat)) (p : Nat × Nat) : cxL q (L ++ [p]) = cxL q L ++ (if q p = true then [codeE p] else []) := by
  unfold cxL
  rw [List.filter_append, List.map_append]
  cases h : q p <;> simp [h]
theorem cxL_len (q : Nat × Nat → Bool) {x y : Nat} (hx : x ≤ 21) (hy : y ≤ x) : (cxL q (idxA x y)).length ≤ 462 := by
  unfold cxL
  rw [List.length_map]
  exact Nat.le_trans (List.length_filter_le _ _) (idxA_le hx hy)
theorem mem_idxs {n : Nat} {p : Nat × Nat} : p ∈ idxs n ↔ p.2 < p.1 ∧ p.1 < eN n := by
  obtain ⟨x, y⟩ := p
  unfold idxs
  rw [List.mem_flatMap]
  constructor
  · rintro ⟨a, ha, hm⟩
    obtain ⟨b, hb, he⟩ := List.mem_map.1 hm
    obtain ⟨rfl, rfl⟩ := Prod.mk.inj he
    exact ⟨List.mem_range.1 hb, List.mem_range.1 ha⟩
  · rintro ⟨h1, h2⟩
    exact ⟨x, List.mem_range.2 h2, List.mem_map.2 ⟨y, List.mem_range.2 h1, rfl⟩⟩
theorem cxL_congr {q r : Nat × Nat → Bool} {L : List (Nat × Nat)} (h : ∀ p ∈ L, q p = r p) : cxL q L = cxL r L := by
  unfold cxL
  rw [List.filter_congr h]
theorem codeE_lt {p : Nat × Nat} (h1 : p.1 < 21) (h2 : p.2 < 21) : codeE p < 2097152 := Nat.or_lt_two_pow (n := 21) (Nat.pow_lt_pow_right (by omega) h1) (Nat.pow_lt_pow_right (by omega) h2)
theorem codeE_bit (p : Nat × Nat) (i : Nat) : (codeE p).testBit i = (decide (p.1 = i) || decide (p.2 = i)) := by
  unfold codeE
  rw [Nat.testBit_or, Nat.testBit_two_pow, Nat.testBit_two_pow]
theorem codeE_sub (S : Nat) (p : Nat × Nat) : (S &&& codeE p == codeE p) = (S.testBit p.1 && S.testBit p.2) := by
  rw [Bool.eq_iff_iff, beq_iff_eq, Bool.and_eq_true]
  constructor
  · intro h
    have k : ∀ i, (codeE p).testBit i = true → S.testBit i = true := fun i hi => by
      have := congrArg (fun x => x.testBit i) h
      simp only [Nat.testBit_and, hi, Bool.and_true] at this
      exact this
    exact ⟨k _ (by rw [codeE_bit]; simp), k _ (by rw [codeE_bit]; simp)⟩
  · rintro ⟨h1, h2⟩
    refine Nat.eq_of_testBit_eq fun i => ?_
    rw [Nat.testBit_and, codeE_bit]
    by_cases e1 : p.1 = i
    · subst e1; rw [h1]; simp
    · by_cases e2 : p.2 = i
      · subst e2; rw [h2]; simp
      · simp [e1, e2]
/-- All sets of crossing edges are small. -/
theorem cxL_small (q : Nat × Nat → Bool) {n : Nat} (h7 : n ≤ 7) : ∀ c ∈ cxL q (idxs n), c < 2097152 := fun c hc => by
  obtain ⟨p, hp, rfl⟩ := List.mem_map.1 hc
  have := mem_idxs.1 (List.mem_filter.1 hp).1
  have := eN_bd n (by omega)
  exact codeE_lt (by omega) (by omega)
/-- How many of them lie within a set. -/
theorem cxL_count (F : Int → Int → Int → Int) (n S : Nat) : (cxL (crE F n) (idxs n)).countP (fun c => S &&& c == c) = prN F n S := by
  unfold cxL prN
  rw [List.countP_map, List.countP_filter]
  refine List.countP_congr fun p _ => ?_
  show ((S &&& codeE p == codeE p) && crE F n p) = true ↔ crP F n S p = true
  rw [codeE_sub]
  rfl
theorem cnt_snoc (q : Nat → Bool) (L : List Nat) (c : Nat) : (L ++ [c]).countP q = L.countP q + bit (q c) := by
  rw [List.countP_append, List.countP_singleton]
  cases q c <;> rfl
theorem take_snoc {L : List Nat} {p : Nat} (h : p < L.length) : L.take (p + 1) = L.take p ++ [L.getD p 0] := by
  rw [List.take_add_one, List.getD_eq_getElem?_getD, List.getElem?_eq_getElem h]
  rfl
/-- What is left of a set without these. -/
def frW (A : Nat) (L : List Nat) : Nat := L.foldl (fun a c => a ^^^ (a &&& c)) A
theorem frW_snoc (A : Nat) (L : List Nat) (c : Nat) : frW A (L ++ [c]) = frW A L ^^^ (frW A L &&& c) := by unfold frW; rw [List.foldl_append]; rfl
theorem frW_bit (i : Nat) : ∀ (L : List Nat) (A : Nat), (frW A L).testBit i = (A.testBit i && L.all fun c => !c.testBit i)
  | [], A => by show A.testBit i = _; simp
  | c :: L, A => by
    have ih := frW_bit i L (A ^^^ (A &&& c))
    show (frW (A ^^^ (A &&& c)) L).testBit i = _
    rw [ih, List.all_cons, Nat.testBit_xor, Nat.testBit_and]
    cases A.testBit i <;> cases c.testBit i <;> rfl
section
variable {n : Nat} {s : List UInt8}
theorem pairsU_ed {p : Nat × Nat} (h7 : n ≤ 7) (h : p ∈ pairsU n) : ∃ k, k < eN n ∧ edL n k = p := by
  obtain ⟨k, hk, e⟩ := List.getElem_of_mem h
  refine ⟨k, by rw [← eN_len n (by omega)]; exact hk, ?_⟩
  unfold edL
  rw [List.getD_eq_getElem?_getD, List.getElem?_eq_getElem hk]
  exact e
/-- The free edges, as impl finds them. -/
theorem free_fold (h : aciB n s = true) : frW (2 ^ eN n - 1) (cxL (crE (sgnF (lookS n s)) n) (idxs n)) = freeE (sgnF (lookS n s)) n := by
  have h7 := (aciB_n h).2
  refine Nat.eq_of_testBit_eq fun i => ?_
  unfold freeE
  rw [frW_bit, setN_bit, Nat.testBit_two_pow_sub_one]
  by_cases hi : i < eN n
  · rw [decide_eq_true hi, Bool.true_and, Bool.true_and, Bool.eq_iff_iff, List.all_eq_true]
    unfold fB frB
    rw [List.all_eq_true]
    constructor
    · intro hall p hp
      obtain ⟨k, hk, rfl⟩ := pairsU_ed (by omega) hp
      rw [Bool.not_eq_true', ← Bool.not_eq_true]
      intro hc
      have hc : crE (sgnF (lookS n s)) n (i, k) = true := hc
      rcases Nat.lt_trichotomy k i with hl | rfl | hl
      · have := hall (codeE (i, k)) (List.mem_map.2 ⟨_, List.mem_filter.2 ⟨mem_idxs.2 ⟨hl, hi⟩, hc⟩, rfl⟩)
        rw [codeE_bit] at this
        simp at this
      · rw [crE_same] at hc
        cases hc
      · rw [crE_sym h hk hi] at hc
        have := hall (codeE (k, i)) (List.mem_map.2 ⟨_, List.mem_filter.2 ⟨mem_idxs.2 ⟨hl, hk⟩, hc⟩, rfl⟩)
        rw [codeE_bit] at this
        simp at this
    · intro hall c hc
      obtain ⟨⟨x, y⟩, hp, rfl⟩ := List.mem_map.1 hc
      obtain ⟨hm, hq⟩ := List.mem_filter.1 hp
      obtain ⟨m1, m2⟩ := mem_idxs.1 hm
      dsimp only at m1 m2
      rw [codeE_bit, Bool.not_eq_true', Bool.or_eq_false_iff, decide_eq_false_iff_not, decide_eq_false_iff_not]
      constructor
      · rintro rfl
        have := hall _ (edL_mem (n := n) (k := y) (by omega) (by omega))
        have hq : crsF (sgnF (lookS n s)) (edL n x).1 (edL n x).2 (edL n y).1 (edL n y).2 = true := hq
        rw [hq] at this
        cases this
      · rintro rfl
        have := hall _ (edL_mem (n := n) (k := x) (by omega) (by omega))
        have hq := (crE_sym h (x := y) (y := x) (by omega) m2).symm.trans hq
        have hq : crsF (sgnF (lookS n s)) (edL n y).1 (edL n y).2 (edL n x).1 (edL n x).2 = true := hq
        rw [hq] at this
        cases this
  · rw [decide_eq_false hi]; rfl
end
theorem setN_or {q : Nat → Bool} {k : Nat} (h : q k = true) : setN q (k + 1) = setN q k ||| 2 ^ k := by
  have e := Nat.two_pow_add_eq_or_of_lt (setN_lt q k) 1
  rw [Nat.mul_one] at e
  rw [setN, if_pos h, Nat.add_comm, e, Nat.or_comm]
theorem setN_no {q : Nat → Bool} {k : Nat} (h : q k = false) : setN q (k + 1) = setN q k := by
  rw [setN, if_neg (by rw [h]; simp), Nat.add_zero]
/-- An edge's number, as impl reckons it. -/
theorem ofs_half0 : ((List.range 8).all fun n => (List.range n).all fun a => decide (a * (2 * n - 1 - a) / 2 = ofs n a) && decide (a * (2 * n - 1 - a) ≤ 42)) = true := by decide +kernel
theorem ofs_half {n a : Nat} (h7 : n ≤ 7) (ha : a < n) : a * (2 * n - 1 - a) / 2 = ofs n a ∧ a * (2 * n - 1 - a) ≤ 42 := by
  have h := List.all_eq_true.1 (List.all_eq_true.1 ofs_half0 n (List.mem_range.2 (by omega))) a (List.mem_range.2 ha)
  rw [Bool.and_eq_true, decide_eq_true_eq, decide_eq_true_eq] at h
  exact h
end Go.Proofs.YtinlnafkmoabbaaGreatDoor.Sg
/- Edges and their numbers, as impl tells them: AllEdges, EdgeIndex, EdgeAt. -/
namespace Go.Proofs.YtinlnafkmoabbaaGreatDoor.Sg
open Go.RowKit Pt NewI
theorem allZ_out {n : Int} (h : ¬ (3 ≤ n ∧ n ≤ 7)) : allZ n = 0 := by
  unfold allZ
  rw [if_neg]
  intro e
  exact h (inB_mem e)
theorem allZ_small (n : Int) : ∃ K : Nat, allZ n = K ∧ K < 2097152 := by
  unfold allZ
  split
  · rename_i h
    obtain ⟨h3, h7⟩ := inB_mem h
    have h0 := Nat.pow_le_pow_right (n := 2) (by omega) (eN_bd n.toNat (by omega))
    exact ⟨_, rfl, by omega⟩
  · exact ⟨0, rfl, by omega⟩
set_option maxHeartbeats 800000 in
set_option maxRecDepth 100000 in
theorem allE_any (n : Int) (w : World) :
    Calls Tryz.prog 42 #[.int .i64 n] w fun e w' => e = .returned (.int .i64 (allZ n)) ∧ w = w' := by
  by_cases h1 : n < 3
  · have HE : Hid (allZ n = 0) := Lib.hid (allZ_out (by omega))
    go_enter Tryz.func42, Tryz.ntmps42
    go_wp2
    go_ret
    exact ⟨ret_int HE.out.symm, rfl⟩
  · by_cases h2 : 7 < n
    · have HE : Hid (allZ n = 0) := Lib.hid (allZ_out (by omega))
      go_enter Tryz.func42, Tryz.ntmps42
      go_wp2
      go_ret
      exact ⟨ret_int HE.out.symm, rfl⟩
    · rcases (by omega : n = 3 ∨ n = 4 ∨ n = 5 ∨ n = 6 ∨ n = 7) with rfl | rfl | rfl | rfl | rfl
      all_goals
        go_enter Tryz.func42, Tryz.ntmps42
        go_wp2
        go_ret
        exact ⟨ret_int (by decide +kernel), rfl⟩
theorem implAllEdges (n : Int) (w : World) :
    Calls Tryz.prog 42 #[.int .i64 n] w fun e w' => e = .returned (.int .i64 (allZ n)) ∧ Below w.heap.size w w' :=
  (allE_any n w).mono fun _ _ ⟨h, e⟩ => ⟨h, by subst e; exact Below.refl _ _⟩
theorem idxZ_out {n i j : Int} (h : ¬ ((3 ≤ n ∧ n ≤ 7) ∧ (0 ≤ i ∧ i < n) ∧ (0 ≤ j ∧ j < n) ∧ i ≠ j)) : idxZ n i j = -1 := by
  unfold idxZ
  rw [if_neg]
  rintro ⟨e1, e2⟩
  exact h ⟨inB_mem e1, difB2_iff.1 e2⟩
theorem idxZ_swap (n i j : Int) : idxZ n i j = idxZ n j i := by
  unfold idxZ
  have e : difB n [i, j] = difB n [j, i] := by
    rw [Bool.eq_iff_iff, difB2_iff, difB2_iff]
    exact ⟨fun ⟨a, b, c⟩ => ⟨b, a, fun e => c e.symm⟩, fun ⟨a, b, c⟩ => ⟨b, a, fun e => c e.symm⟩⟩
  rw [e, ix_swap]
theorem idxZ_in {n i j : Nat} (h3 : 3 ≤ n) (h7 : n ≤ 7) (h : i < j) (hj : j < n) : ∃ h : Nat, (i : Int) * (2 * n - 1 - i) = ((h : Nat) : Int) ∧ h ≤ 42 ∧ idxZ n i j = ((h / 2 + j - i - 1 : Nat) : Int) := by
  obtain ⟨h1, h2⟩ := ofs_half h7 (show i < n by omega)
  refine ⟨i * (2 * n - 1 - i), ?_, h2, ?_⟩
  · rw [Int.natCast_mul, show ((2 * n - 1 - i : Nat) : Int) = 2 * (n : Int) - 1 - i by omega]
  · unfold idxZ
    rw [if_pos ⟨inB_yes (by omega) (by omega), difB2_iff.2 ⟨⟨by omega, by omega⟩, ⟨by omega, by omega⟩, by omega⟩⟩, Int.toNat_natCast, Int.toNat_natCast, Int.toNat_natCast, ix_lt h, h1]
    omega
set_option maxHeartbeats 1600000 in
set_option maxRecDepth 100000 in
/-- EdgeIndex of a lesser and a greater number, either way round. -/
theorem edgeIx_any (n p q : Int) (hpq : p ≤ q) (hn : I64 n) (hp : I64 p) (hq : I64 q) (i j : Int) (hij : (i = p ∧ j = q) ∨ (i = q ∧ j = p)) (w : World) :
    Calls Tryz.prog 37 #[.int .i64 n, .int .i64 i, .int .i64 j] w fun e w' => e = .returned (.int .i64 (idxZ n p q)) ∧ w = w' := by
  have hmin : min i j = p := by omega
  have hmax : max i j = q := by omega
  obtain ⟨K, hK, hKb⟩ := allZ_small n
  have HA := Lib.hid (fun W => allE_any n W)
  by_cases hn3 : 3 ≤ n ∧ n ≤ 7
  · have hK0 : K ≠ 0 := by
      unfold allZ at hK
      rw [if_pos (inB_yes hn3.1 hn3.2)] at hK
      have := Nat.pow_le_pow_right (n := 2) (by omega) (show 1 ≤ eN n.toNat by
        rcases (by omega : n = 3 ∨ n = 4 ∨ n = 5 ∨ n = 6 ∨ n = 7) with rfl | rfl | rfl | rfl | rfl <;> decide)
      omega
    have hKz : ((K : Int) == 0) = false := by simp; omega
    rw [hK] at HA
    clear hK
    by_cases h1 : p < 0
    · have HE := Lib.hid (idxZ_out (n := n) (i := p) (j := q) (by omega))
      rw [HE.out]
      clear hn3 HE
      go_enter Tryz.func37, Tryz.ntmps37
      go_wp2_with fail
      refine (HA.out _).mono ?_
      rintro e w' ⟨rfl, rfl⟩
      go_wp2
      go_ret
      exact ⟨rfl, rfl⟩
    · by_cases h2 : n ≤ q
      · have HE := Lib.hid (idxZ_out (n := n) (i := p) (j := q) (by omega))
        rw [HE.out]
        clear hn3 HE
        go_enter Tryz.func37, Tryz.ntmps37
        go_wp2_with fail
        refine (HA.out _).mono ?_
        rintro e w' ⟨rfl, rfl⟩
        go_wp2
        go_ret
        exact ⟨rfl, rfl⟩
      · by_cases h3 : p = q
        · have HE := Lib.hid (idxZ_out (n := n) (i := p) (j := q) (by omega))
          rw [HE.out]
          have hpqb : (p == q) = true := by simpa using h3
          clear hn3 HE h3
          go_enter Tryz.func37, Tryz.ntmps37
          go_wp2_with fail
          refine (HA.out _).mono ?_
          rintro e w' ⟨rfl, rfl⟩
          go_wp2
          go_ret
          exact ⟨rfl, rfl⟩
        · obtain ⟨n, rfl⟩ : ∃ m : Nat, n = m := ⟨n.toNat, by omega⟩
          obtain ⟨p, rfl⟩ : ∃ m : Nat, p = m := ⟨p.toNat, by omega⟩
          obtain ⟨q, rfl⟩ : ∃ m : Nat, q = m := ⟨q.toNat, by omega⟩
          obtain ⟨h, e1, e2, e3⟩ := idxZ_in (n := n) (i := p) (j := q) (by omega) (by omega) (by omega) (by omega)
          have hpqb : ((p : Int) == (q : Int)) = false := by simp; omega
          have hlt : p < q := by omega
          have hw : IntKind.i64.wrap ((p : Int) * (2 * (n : Int) - 1 - p)) = ((h : Nat) : Int) := by rw [e1]; exact IntWalk.i64_in _ (by omega)
          rw [e3]
          clear e1 e3 h3
          go_enter Tryz.func37, Tryz.ntmps37
          go_wp2_with fail
          refine (HA.out _).mono ?_
          rintro e w' ⟨rfl, rfl⟩
          go_wp2
          go_ret
          exact ⟨ret_int (by omega), rfl⟩
  · have HE := Lib.hid (idxZ_out (n := n) (i := p) (j := q) (by omega))
    rw [HE.out]
    have h0 := allZ_out hn3
    rw [h0] at HA
    clear hn3 HE h0 hK
    go_enter Tryz.func37, Tryz.ntmps37
    go_wp2_with fail
    refine (HA.out _).mono ?_
    rintro e w' ⟨rfl, rfl⟩
    go_wp2
    go_ret
    exact ⟨rfl, rfl⟩
theorem implEdgeIndex (n i j : Int) (hn : I64 n) (hi : I64 i) (hj : I64 j) (w : World) :
    Calls Tryz.prog 37 #[.int .i64 n, .int .i64 i, .int .i64 j] w fun e w' => e = .returned (.int .i64 (idxZ n i j)) ∧ Below w.heap.size w w' := by
  rcases Int.le_total i j with h | h
  · exact (edgeIx_any n i j h hn hi hj i j (.inl ⟨rfl, rfl⟩) w).mono fun _ _ ⟨h, e⟩ => ⟨h, by subst e; exact Below.refl _ _⟩
  · rw [idxZ_swap]
    exact (edgeIx_any n j i h hn hj hi i j (.inr ⟨rfl, rfl⟩) w).mono fun _ _ ⟨h, e⟩ => ⟨h, by subst e; exact Below.refl _ _⟩
theorem edZ_no {n k : Int} (h : ¬ ((3 ≤ n ∧ n ≤ 7) ∧ 0 ≤ k ∧ k < (eN n.toNat : Nat))) : edZ n k = (-1, -1) := by
  unfold edZ
  rw [if_neg]
  rintro ⟨e1, e2⟩
  exact h ⟨inB_mem e1, e2⟩
theorem allZ_bit (n : Int) (k : Nat) (K : Nat) (hK : allZ n = K) : K.testBit k = decide ((3 ≤ n ∧ n ≤ 7) ∧ k < eN n.toNat) := by
  by_cases h : 3 ≤ n ∧ n ≤ 7
  · unfold allZ at hK
    rw [if_pos (inB_yes h.1 h.2)] at hK
    have hK : K = 2 ^ eN n.toNat - 1 := by omega
    rw [hK, Nat.testBit_two_pow_sub_one]
    simp [h]
  · rw [allZ_out h] at hK
    have : K = 0 := by omega
    subst this
    simp [h]
set_option maxHeartbeats 1600000 in
set_option maxRecDepth 100000 in
theorem edgeAt_any (n k : Int) (hk : I64 k) (w : World) :
    Calls Tryz.prog 31 #[.int .i64 n, .int .i64 k] w fun e w' => e = .returned (.tuple #[.int .i64 (edZ n k).1, .int .i64 (edZ n k).2]) ∧ w = w' := by
  by_cases h0 : k < 0
  · have HE := Lib.hid (edZ_no (n := n) (k := k) (by omega))
    rw [HE.out]
    clear HE
    go_enter Tryz.func31, Tryz.ntmps31
    go_wp2
    go_ret2
    exact ⟨rfl, rfl⟩
  · obtain ⟨k, rfl⟩ : ∃ m : Nat, k = m := ⟨k.toNat, by omega⟩
    obtain ⟨K, hK, hKb⟩ := allZ_small n
    have HA := Lib.hid (fun W => allE_any n W)
    have hbit := allZ_bit n k K hK
    rw [hK] at HA
    by_cases hin : (3 ≤ n ∧ n ≤ 7) ∧ k < eN n.toNat
    · obtain ⟨hn3, hke⟩ := hin
      obtain ⟨n, rfl⟩ : ∃ m : Nat, n = m := ⟨n.toNat, by omega⟩
      have hke : k < eN n := hke
      have hE := eN_bd n (by omega)
      have hk64 : k < 64 := by have := hke; have := hE; omega
      have hmk : min k 64 = k := by omega
      have hb : bits BinOp.and IntKind.i64 ((K : Int) / 2 ^ k) 1 = 1 := by
        have hd : decide ((3 ≤ (n : Int) ∧ (n : Int) ≤ 7) ∧ k < eN (n : Int).toNat) = true := decide_eq_true ⟨hn3, hke⟩
        rw [has_bits2 K k (by omega), hbit, hd]
        rfl
      have HHIT := Lib.hid (fun (i j : Nat) (hij : i < j) (hj : j < n) => edZ_hit (k := (k : Int)) (inB_yes hn3.1 hn3.2) hij hj)
      have HX := Lib.hid (fun (i j : Nat) (hij : i < j) => ix_lt (n := n) hij)
      have HST := Lib.hid (fun a (h : a < n) => ofs_step h)
      have HOF := Lib.hid (ofs_all n (by omega))
      have H0 : Hid (ofs n 0 = 0) := Lib.hid rfl
      have HKE := Lib.hid hke
      have hk21 : k ≤ 21 := by have := hke; have := hE; omega
      generalize edZ n k = r at HHIT ⊢
      obtain ⟨r1, r2⟩ := r
      generalize ofs n = p at HX HST H0 HOF
      generalize ixN n = x at HHIT HX
      clear hbit hK hke
      go_enter Tryz.func31, Tryz.ntmps31
      go_wp2_with fail
      refine (HA.out _).mono ?_
      rintro e w' ⟨rfl, rfl⟩
      go_wp2
      go_loopw [1, 6] (fun kv av wr => ∃ a t : Nat, a < n ∧ t ≤ 21 ∧ kv = .int .i64 t ∧ av = .int .i64 a ∧ Hid (p a + t = k) ∧ wr = w) (fun _ av _ => n - (intOf av).toNat)
      case atStart => exact ⟨0, k, by omega, by omega, rfl, rfl, Lib.hid (by have := H0.out; omega), rfl⟩
      case round =>
        obtain ⟨a, t, han, ht, rfl, rfl, HP, rfl⟩ := hrel
        by_cases hlt : n ≤ t + a + 1
        · have hlast : a + 1 < n := by
            refine Classical.byContradiction fun hc => ?_
            obtain rfl : n = a + 1 := by omega
            have h1 := HST.out a (by omega)
            have := HOF.out
            have := HP.out
            have := HKE.out
            omega
          have HP2 : Hid (p (a + 1) + (t - (n - 1 - a)) = k) := Lib.hid (by have h1 := HST.out a han; have := HP.out; omega)
          go_wp2
          exact ⟨⟨a + 1, t - (n - 1 - a), by omega, by omega, by go_num, by go_num, HP2, by trivial⟩, by simp only [intOf]; omega⟩
        · have HR := Lib.hid (HHIT.out a (a + 1 + t) (by omega) (by omega) (by rw [HX.out a (a + 1 + t) (by omega)]; have := HP.out; omega))
          go_wp2
          go_ret2
          exact ⟨ret_two (by rw [HR.out]; simp), rfl⟩
    · have HE := Lib.hid (edZ_no (n := n) (k := (k : Int)) (by omega))
      rw [HE.out]
      have hf : K.testBit k = false := by rw [hbit]; exact decide_eq_false hin
      clear HE hbit hK hin
      obtain ⟨j, hj⟩ : ∃ j, min k 64 = j := ⟨_, rfl⟩
      have hb : bits BinOp.and IntKind.i64 ((K : Int) / 2 ^ j) 1 = 0 := by
        rw [has_bits2 K j (by omega)]
        have hfj : K.testBit j = false := by
          by_cases h64 : k < 64
          · obtain rfl : k = j := by omega
            exact hf
          · obtain rfl : j = 64 := by omega
            exact Nat.testBit_lt_two_pow (by omega)
        rw [hfj]
        rfl
      clear hf
      go_enter Tryz.func31, Tryz.ntmps31
      go_wp2_with fail
      refine (HA.out _).mono ?_
      rintro e w' ⟨rfl, rfl⟩
      go_wp2
      go_ret2
      exact ⟨rfl, rfl⟩
theorem implEdgeAt (n k : Int) (hk : I64 k) (w : World) :
    Calls Tryz.prog 31 #[.int .i64 n, .int .i64 k] w fun e w' => e = .returned (.tuple #[.int .i64 (edZ n k).1, .int .i64 (edZ n k).2]) ∧ Below w.heap.size w w' :=
  (edgeAt_any n k hk w).mono fun _ _ ⟨h, e⟩ => ⟨h, by subst e; exact Below.refl _ _⟩
end Go.Proofs.YtinlnafkmoabbaaGreatDoor.Sg
/- Edges that cross, as impl tells them: doCross, DoCross. -/
namespace Go.Proofs.YtinlnafkmoabbaaGreatDoor.Sg
open Go.RowKit Pt NewI
set_option maxRecDepth 100000 in
theorem eqlX (x0 x1 x2 x3 : Int) (b0 : -1 ≤ x0 ∧ x0 ≤ 1) (b1 : -1 ≤ x1 ∧ x1 ≤ 1) (b2 : -1 ≤ x2 ∧ x2 ≤ 1) (b3 : -1 ≤ x3 ∧ x3 ≤ 1) (W : World) :
    (binOp .eql 116 (.agg #[.int .i64 x0, .int .i64 x1, .int .i64 x2, .int .i64 x3]) (.agg #[.int .i64 1, .int .i64 1, .int .i64 (-1), .int .i64 (-1)])).run Tryz.prog W = .ok (.bool (x0 == 1 && (x1 == 1 && (x2 == -1 && x3 == -1)))) W := by
  rcases tri b0 with rfl | rfl | rfl <;> rcases tri b1 with rfl | rfl | rfl <;> rcases tri b2 with rfl | rfl | rfl <;> rcases tri b3 with rfl | rfl | rfl <;> kernel_rfl
set_option maxHeartbeats 800000 in
set_option maxRecDepth 100000 in
theorem doCross_any (B : Nat) (f : Int → Int → Int → Int) (a b c d : Int) (ha : I64 a) (hb : I64 b) (hc : I64 c) (hd : I64 d) (w : World) (hm : MapIs w B f) :
    Calls Tryz.prog 101 #[.map (some B), .int .i64 a, .int .i64 b, .int .i64 c, .int .i64 d] w fun e w' => e = .returned (.bool (isX (cir (sgnF f) a b c d))) ∧ Below w.heap.size w w' := by
  obtain ⟨c0, c1, c2, c3, hx⟩ : ∃ c0 c1 c2 c3, cir (sgnF f) a b c d = (c0, c1, c2, c3) := ⟨_, _, _, _, rfl⟩
  obtain ⟨b0, b1, b2, b3⟩ := cir_bd (sgnF_bd hm.2) hx
  have HC := Lib.hid (circuitOf_any B f a b c d ha hb hc hd w hm)
  rw [hx] at HC
  have hq := fun W => eqlX c0 c1 c2 c3 b0 b1 b2 b3 W
  have HE : Hid (isX (cir (sgnF f) a b c d) = (c0 == 1 && (c1 == 1 && (c2 == -1 && c3 == -1)))) := Lib.hid (by rw [hx]; rfl)
  generalize (c0 == 1 && (c1 == 1 && (c2 == -1 && c3 == -1))) = q at hq HE
  clear hx hm b0 b1 b2 b3 ha hb hc hd
  go_enter Tryz.func101, Tryz.ntmps101
  go_wp2_with fail
  refine HC.out.mono ?_
  rintro e w1 ⟨rfl, hb1⟩
  go_wp2
  go_ret
  exact ⟨ret_bool HE.out.symm, hb1⟩
set_option maxHeartbeats 800000 in
set_option maxRecDepth 100000 in
theorem implDoCross (n : Int) (s : ByteArray) (hs : s.size ≤ 9223372036854775807) (a b c d : Int) (ha : I64 a) (hb : I64 b) (hc : I64 c) (hd : I64 d) (w : World) :
    Calls Tryz.prog 39 #[sg n s, .int .i64 a, .int .i64 b, .int .i64 c, .int .i64 d] w fun e w' => e = .returned (.bool (dcB n s.data.toList a b c d)) ∧ Below w.heap.size w w' := by
  have HO := Lib.hid (fun W => implOrd n s hs W)
  have HI := Lib.hid (fun B W hm => doCross_any B (ordF n s.data.toList) a b c d ha hb hc hd W hm)
  rw [isX_dc] at HI
  have HS := Lib.hid (box_made w n s 25)
  clear ha hb hc hd
  go_enter Tryz.func39, Tryz.ntmps39
  go_wp2_with fail
  refine (HO.out _).mono ?_
  rintro e w1 ⟨B, rfl, hm, hb1⟩
  have B1 := Lib.hid (HS.out.on hb1).2.2
  have HM := Lib.hid hm.is
  clear hm hb1
  go_wp2_with fail
  refine (HI.out _ _ HM.out).mono ?_
  rintro e w2 ⟨rfl, hb2⟩
  have B2 := Lib.hid (B1.out.trans (hb2.mono B1.out.size))
  clear hb2
  go_wp2
  go_ret
  exact ⟨rfl, B2.out⟩
end Go.Proofs.YtinlnafkmoabbaaGreatDoor.Sg
/- impl.elementsOf of all edges: the numbers from 0 on. -/
namespace Go.Proofs.YtinlnafkmoabbaaGreatDoor.Sg
open Go.RowKit Pt NewI
/-- A rest of the numbers: no lower bits. -/
def restE (E j : Nat) : Nat := 2 ^ E - 2 ^ j
theorem low_bitE0 : ((List.range 22).all fun E => (List.range E).all fun j => ((restE E j &&& (18446744073709551616 - restE E j) == 2 ^ j) && (restE E j &&& (restE E j - 1) == restE E (j + 1))) && (decide (restE E (j + 1) < restE E j) && decide (restE E j < 2097152))) = true := by decide +kernel
theorem low_bitE {E j : Nat} (hE : E ≤ 21) (hj : j < E) : restE E j &&& (18446744073709551616 - restE E j) = 2 ^ j ∧ restE E j &&& (restE E j - 1) = restE E (j + 1) ∧ restE E (j + 1) < restE E j ∧ restE E j < 2097152 := by
  have h := List.all_eq_true.1 (List.all_eq_true.1 low_bitE0 E (List.mem_range.2 (by omega))) j (List.mem_range.2 hj)
  rw [Bool.and_eq_true, Bool.and_eq_true, Bool.and_eq_true, beq_iff_eq, beq_iff_eq, decide_eq_true_eq, decide_eq_true_eq] at h
  exact ⟨h.1.1, h.1.2, h.2.1, h.2.2⟩
def tzE (k : Nat) : Nat := 2 ^ k * 285870213051353865 % 18446744073709551616 / 288230376151711744
theorem tz_atE0 : ((List.range 21).all fun k => decide (tzE k < 64) && (tab64.getD (tzE k) 0 == (k : Int))) = true := by decide +kernel
theorem tz_atE {k : Nat} (hk : k < 21) : tzE k < 64 ∧ tab64.getD (tzE k) 0 = (k : Int) := by
  have h := List.all_eq_true.1 tz_atE0 k (List.mem_range.2 hk)
  rw [Bool.and_eq_true, beq_iff_eq, decide_eq_true_eq] at h
  exact h
theorem tz_keyE (x k : Nat) (hx : x < 2097152) (h0 : 0 < x) (hl : x &&& (18446744073709551616 - x) = 2 ^ k) : IntKind.u64.wrap (bits BinOp.and IntKind.u64 (x : Int) (IntKind.u64.wrap (-(x : Int))) * 285870213051353865) / 288230376151711744 = (tzE k : Int) := by
  have e1 : IntKind.u64.wrap (-(x : Int)) = ((18446744073709551616 - x : Nat) : Int) := by rw [IntKind.wrap_u64]; omega
  rw [e1, bits_andU x _ (by omega) (by omega), hl, IntKind.wrap_u64]
  unfold tzE
  omega
set_option maxRecDepth 100000 in
theorem tzE_any (x k : Nat) (h0 : 0 < x) (hx : x < 2097152) (hk : k < 21) (hl : x &&& (18446744073709551616 - x) = 2 ^ k) (w : World) (hT : Tab w) :
    Calls Tryz.prog 136 #[.int .u64 x] w fun e w' => e = .returned (.int .i64 k) ∧ w = w' := by
  obtain ⟨hi, ht⟩ := tz_atE hk
  have hcell := hT _ hi
  rw [ht] at hcell
  have HC := Lib.hid (tz64_core x k _ w (by simp; omega) (tz_keyE x k hx h0 hl) hi (by omega) hcell)
  have hw : IntKind.u64.wrap (x : Int) = (x : Int) := by rw [IntKind.wrap_u64]; omega
  clear hT hcell ht hi hl
  go_enter Tryz.func136, Tryz.ntmps136
  go_wp2_with fail
  refine HC.out.mono ?_
  rintro e w' ⟨rfl, rfl⟩
  go_wp2
  go_ret
  exact ⟨rfl, rfl⟩
theorem zl_snoc (L : List Nat) (x : Nat) : zl (L ++ [x]) = zl L ++ [(x : Int)] := by unfold zl; rw [List.map_append]; rfl
set_option maxHeartbeats 1600000 in
set_option maxRecDepth 100000 in
theorem elementsE_any (E : Nat) (hE : E ≤ 21) (w : World) (hT : Tab w) :
    Calls Tryz.prog 90 #[.int .i64 (2 ^ E - 1 : Nat)] w fun e w' => ∃ v, e = .returned v ∧ ArgZ w' w.heap.size v (zl (List.range E)) ∧ Below w.heap.size w w' := by
  have HTAB := Lib.hid hT
  have HTZ := Lib.hid (fun (j : Nat) (hj : j < E) W (hW : Tab W) => tzE_any (restE E j) j (by have := (low_bitE hE hj).2.2.1; omega) (low_bitE hE hj).2.2.2 (by omega) (low_bitE hE hj).1 W hW)
  have HST := Lib.hid (fun j (hj : j < E) => (low_bitE hE hj).2)
  have HEND : Hid (restE E E = 0) := Lib.hid (by unfold restE; omega)
  obtain ⟨i0, hi, hz0, hz1, hz2⟩ := info_parts infoI
  have H0 : Hid ((2 ^ E - 1 : Nat) = restE E 0) := Lib.hid rfl
  have hset : 2 ^ E - 1 < 2097152 := by
    have := Nat.pow_le_pow_right (n := 2) (by omega) hE
    omega
  have hcv : IntKind.u64.wrap ((2 ^ E - 1 : Nat) : Int) = ((2 ^ E - 1 : Nat) : Int) := by rw [IntKind.wrap_u64]; omega
  have HO0 : Hid (OwnsZ w w.heap.size (.slice none 0 0) (zl (List.range 0))) := Lib.hid (World.ownsRow_nil _ _ _ _)
  generalize (2 ^ E - 1 : Nat) = set at H0 hset hcv ⊢
  generalize restE E = rs at HTZ HST HEND H0
  clear hT
  go_enter Tryz.func90, Tryz.ntmps90
  go_wp2
  go_loopw [3, 4] (fun vv rv wr => ∃ (r j : Nat), rv = .int .u64 r ∧ j ≤ E ∧ r < 2097152 ∧ Hid (r = rs j) ∧ Hid (OwnsZ wr w.heap.size vv (zl (List.range j))) ∧ Hid (j = 0 → vv = .slice none 0 0) ∧ Hid (Below w.heap.size w wr)) (fun _ rv _ => (intOf rv).toNat)
  case atStart => exact ⟨set, 0, rfl, Nat.zero_le _, hset, H0, HO0, Lib.hid (fun _ => rfl), Lib.hid (Below.refl _ _)⟩
  case round =>
    obtain ⟨r, j, rfl, hj, hr, HR, HO, HN, HB⟩ := hrel
    by_cases hz : r = 0
    · have hje : j = E := by
        refine Classical.byContradiction fun hc => ?_
        have := HST.out j (by omega)
        have := HR.out
        omega
      subst hz hje
      have HA : Hid (ArgZ wr w.heap.size _ (zl (List.range j))) := Lib.hid (ArgZ.of_own HO.out (fun e => HN.out (by
        have := zl_nil e
        simpa using this)))
      clear HO HN
      go_wp2
      go_ret
      exact ⟨_, rfl, HA.out, HB.out⟩
    · have hje : j < E := by
        refine Classical.byContradiction fun hc => ?_
        obtain rfl : j = E := by omega
        have := HEND.out
        have := HR.out
        omega
      obtain ⟨s1, s2, s3⟩ := HST.out j hje
      have HC := Lib.hid (fun W hW => HTZ.out j hje W hW)
      have HR2 := HR.out
      rw [← HR2] at s1 s2 HC
      have hnx : rs (j + 1) < 2097152 := by omega
      obtain ⟨p, hp⟩ : ∃ p, p = r - 1 := ⟨_, rfl⟩
      have hp1 : IntKind.u64.wrap ((r : Int) - 1) = (p : Int) := by rw [IntKind.wrap_u64]; omega
      have hba : bits BinOp.and IntKind.u64 (r : Int) ((p : Nat) : Int) = ((rs (j + 1) : Nat) : Int) := by rw [bits_andU r p (by omega) (by omega), hp, s1]
      have hnz : ((r : Int) != 0) = true := by simp; omega
      generalize hq : rs (j + 1) = q at hba s2 hnx
      have HQ := Lib.hid hq.symm
      have hzl : (zl (List.range j)).length ≤ 21 := by rw [zl_length, List.length_range]; omega
      have hwr := HB.out.size
      clear s1 s3 hp HR2 hq
      go_wp2_with fail
      refine (HC.out _ (HTAB.out.on HB.out)).mono ?_
      rintro e w' ⟨rfl, rfl⟩
      go_wp2_with (at_builtin; refine wpList_append_own _ rfl (.tmp 13) (.tmp 16) 27 rfl w.heap.size 3 i0 _ 1 8 Tryz.underlying27 hi hz0 hz1 hz2 rfl (by decide) _ _ _ rfl (World.ownsRow.alloc HO.out _) ⟨_, 0, none⟩ 1 1 [.int .i64 (j : Int)] rfl rfl (news1 _ _ _) (one1 _) (by simp only [maxLen]; omega) (by omega) (by simp; omega) ?_)
      intro v6 w6 hown6 hg6 _
      have HB6 := Lib.hid ((HB.out.alloc hwr (.cells #[.int .i64 (j : Int)] 3)).grown hg6 (by simp; omega) (fun k hk => (World.ownsRow.lt HO.out k hk).1))
      have HO6 : Hid (OwnsZ w6 w.heap.size v6 (zl (List.range (j + 1)))) := Lib.hid (by
        have := ownsZ_snoc (ys := [(j : Int)]) hown6
        rw [List.range_succ, zl_snoc]
        exact this)
      clear hown6 hg6
      go_wp2
      exact ⟨⟨q, j + 1, rfl, by omega, by omega, HQ, HO6, Lib.hid (fun e => absurd e (by omega)), HB6⟩, by simp only [intOf]; omega⟩
/-- The same, with the cells told one by one. -/
def ElA (W : World) (a : Option Addr) (E : Nat) : Prop := ∀ k : Nat, k < E → ∃ g, a = some ⟨g, 0, none⟩ ∧ W.cell? ⟨g, k, none⟩ = some (.int .i64 k)
theorem ElA.on {W W' : World} {a : Option Addr} {E : Nat} (h : ElA W a E) (hb : Below W.heap.size W W') : ElA W' a E := fun k hk => by
  obtain ⟨g, h1, h2⟩ := h k hk
  exact ⟨g, h1, by rw [hb.cell (Kit.cell_lt h2)]; exact h2⟩
theorem elA_of {W : World} {B E : Nat} {v : Value} (h : ArgZ W B v (zl (List.range E))) : ∃ a c, v = .slice a E c ∧ ElA W a E := by
  have hl : (zl (List.range E)).length = E := by rw [zl_length, List.length_range]
  rcases h with ⟨h0, rfl⟩ | ⟨h0, g, c, rfl, hB, -, -, -, hc⟩
  · rw [h0] at hl
    obtain rfl : 0 = E := hl
    exact ⟨none, 0, rfl, fun k hk => absurd hk (by omega)⟩
  · refine ⟨some ⟨g, 0, none⟩, c, by rw [hl], fun k hk => ⟨g, rfl, ?_⟩⟩
    rw [hc.cell k (by omega), zc_lt (by omega)]
    congr 2
    unfold zl
    rw [List.getElem_map, List.getElem_range]
theorem eN_zero : eN 0 = 0 := rfl
theorem allZ_pow {n : Nat} (h : n = 0 ∨ (3 ≤ n ∧ n ≤ 7)) : allZ (n : Int) = ((2 ^ eN n - 1 : Nat) : Int) := by
  rcases h with rfl | h
  · rfl
  · unfold allZ
    rw [if_pos (inB_yes (by omega) (by omega)), Int.toNat_natCast]
/-- A list of numbers that a call hands back, cell by cell. -/
def LsA (W : World) (a : Option Addr) (L : List Nat) : Prop := ∀ k : Nat, k < L.length → ∃ g, a = some ⟨g, 0, none⟩ ∧ W.cell? ⟨g, k, none⟩ = some (.int .i64 (L.getD k 0 : Nat))
theorem LsA.on {W W' : World} {a : Option Addr} {L : List Nat} (h : LsA W a L) (hb : Below W.heap.size W W') : LsA W' a L := fun k hk => by
  obtain ⟨g, h1, h2⟩ := h k hk
  exact ⟨g, h1, by rw [hb.cell (Kit.cell_lt h2)]; exact h2⟩
theorem lsA_of {W : World} {B : Nat} {v : Value} {L : List Nat} (h : ArgZ W B v (zl L)) : ∃ a c, v = .slice a L.length c ∧ LsA W a L := by
  have hl := zl_length L
  rcases h with ⟨h0, rfl⟩ | ⟨h0, g, c, rfl, hB, -, -, -, hc⟩
  · rw [h0] at hl
    have hl : 0 = L.length := hl
    exact ⟨none, 0, by rw [← hl], fun k hk => absurd hk (by omega)⟩
  · refine ⟨some ⟨g, 0, none⟩, c, by rw [hl], fun k hk => ⟨g, rfl, ?_⟩⟩
    rw [hc.cell k (by omega), zc_lt (by omega)]
    congr 2
    unfold zl
    rw [List.getElem_map, List.getD_eq_getElem?_getD, List.getElem?_eq_getElem hk]
    rfl
theorem allZ_pos {n : Int} (h3 : 3 ≤ n) (h7 : n ≤ 7) : 0 < allZ n := by
  obtain ⟨m, rfl⟩ : ∃ m : Nat, n = m := ⟨n.toNat, by omega⟩
  have h := allZ_pow (n := m) (.inr ⟨by omega, by omega⟩)
  have hp : ∀ m, m < 8 → 3 ≤ m → 0 < 2 ^ eN m - 1 := by decide +kernel
  have := hp m (by omega) (by omega)
  omega
set_option maxHeartbeats 800000 in
set_option maxRecDepth 100000 in
/-- Whether a number is a set of edges of so many elements. -/
theorem edgeSet_any (n T : Int) (w : World) :
    Calls Tryz.prog 85 #[.int .i64 n, .int .i64 T] w fun e w' => e = .returned (.bool (inB n 3 7 && inB T 0 (allZ n))) ∧ w = w' := by
  have HAL := Lib.hid (fun W => allE_any n W)
  by_cases hn : 3 ≤ n ∧ n ≤ 7
  · have hpos := allZ_pos hn.1 hn.2
    have hz : (allZ n == 0) = false := beq_eq_false_iff_ne.2 (by omega)
    have hz2 : (allZ n != 0) = true := bne_iff_ne.2 (by omega)
    rw [inB_yes hn.1 hn.2, Bool.true_and]
    generalize allZ n = K at HAL hpos hz hz2 ⊢
    by_cases h0 : T < 0
    · have HE : inB T 0 K = false := by
        cases hb : inB T 0 K
        · rfl
        · have := inB_mem hb; omega
      rw [HE]
      clear HE
      go_enter Tryz.func85, Tryz.ntmps85
      go_wp2_with fail
      refine (HAL.out _).mono ?_
      rintro e w' ⟨rfl, rfl⟩
      go_wp2
      go_ret
      exact ⟨rfl, rfl⟩
    · by_cases h1 : K < T
      · have HE : inB T 0 K = false := by
          cases hb : inB T 0 K
          · rfl
          · have := inB_mem hb; omega
        rw [HE]
        have k1 : decide (T ≤ K) = false := decide_eq_false (by omega)
        clear HE
        go_enter Tryz.func85, Tryz.ntmps85
        go_wp2_with fail
        refine (HAL.out _).mono ?_
        rintro e w' ⟨rfl, rfl⟩
        go_wp2_with fail
        refine (HAL.out _).mono ?_
        rintro e w' ⟨rfl, rfl⟩
        go_wp2
        go_ret
        exact ⟨rfl, rfl⟩
      · rw [inB_yes (by omega) (by omega)]
        have k1 : decide (T ≤ K) = true := decide_eq_true (by omega)
        go_enter Tryz.func85, Tryz.ntmps85
        go_wp2_with fail
        refine (HAL.out _).mono ?_
        rintro e w' ⟨rfl, rfl⟩
        go_wp2_with fail
        refine (HAL.out _).mono ?_
        rintro e w' ⟨rfl, rfl⟩
        go_wp2
        go_ret
        exact ⟨rfl, rfl⟩
  · have HE : inB n 3 7 = false := by
      cases hb : inB n 3 7
      · rfl
      · exact absurd (inB_mem hb) hn
    rw [HE, Bool.false_and]
    rw [allZ_out hn] at HAL
    clear HE
    go_enter Tryz.func85, Tryz.ntmps85
    go_wp2_with fail
    refine (HAL.out _).mono ?_
    rintro e w' ⟨rfl, rfl⟩
    go_wp2
    go_ret
    exact ⟨rfl, rfl⟩
end Go.Proofs.YtinlnafkmoabbaaGreatDoor.Sg
/- The pairs of edges that cross, as impl lists them: crossingsOf. -/
namespace Go.Proofs.YtinlnafkmoabbaaGreatDoor.Sg
open Go.RowKit Pt NewI
/-- The law for append of a slice, empty or not, at a step of a region that draws its order. -/
theorem step_appE {P : Program} (w : World) {ops : Array Oper} {o : Oper} {a : Act} {K : Act → World → Prop} {Q : Exit → Act → World → Prop} {E : Prop} (hgd : o.guard = none) (s x : Operand) (t : TypeId)
    (ho : o.op = .call { callee := .builtin .append, args := #[s, x], argTypes := #[t, t] })
    (base : Nat) (e : TypeId) (i : TypeInfo) (z : Value) (size bytes : Nat) (ht : P.underlying t = some (.slice e)) (hi : P.info? e = some i) (hz : i.zero = some z)
    (hsize : i.size = size) (hby : i.bytes = bytes) (hzs : z.cells.size = size) (hsz : 0 < size)
    (v : Value) (n : Nat) (xs : List Value) (hs : a.eval s = v) (hown : w.ownsRow base e size v n xs)
    (ad : Addr) (m c : Nat) (news : List Value) (hx : a.eval x = .slice (some ad) m c) (hl : news.length = m * size) (hnews : ∀ j u, news[j]? = some u → w.cell? (ad.add j) = some u) (h1 : ∀ u ∈ news, u.oneCell' = true)
    (h63 : n + m ≤ maxLen) (hbytes : (n + m) * bytes ≤ 140737488355328) (hbase : base ≤ w.heap.size)
    (h : ∀ v' w', w'.ownsRow base e size v' (n + m) (xs ++ news) → w.grownBy w' v.ownBlock → (v' = .slice none 0 0 ↔ v = .slice none 0 0 ∧ m = 0) → K (a.put o.dst v') w') :
    if Region.wanted o (yielded ops a.tmps) = true then Oper.wp P o a w K Q else E := by
  have hw : Region.wanted o (yielded ops a.tmps) = true := by simp [Region.wanted, hgd]
  rw [if_pos hw]
  exact wp_append_own w s x t ho base e i z size bytes ht hi hz hsize hby hzs hsz v n xs hs hown ad m c news hx hl hnews h1 h63 hbytes hbase h
set_option maxHeartbeats 3200000 in
set_option maxRecDepth 100000 in
theorem crossingsOf_any (B : Nat) (f : Int → Int → Int → Int) (n : Nat) (hn : n = 0 ∨ (3 ≤ n ∧ n ≤ 7)) (w : World) (hm : MapIs w B f) (hT : Tab w) :
    Calls Tryz.prog 98 #[.map (some B), .int .i64 n] w fun e w' => ∃ v, e = .returned v ∧ ArgZ w' w.heap.size v (zl (cxL (crX (sgnF f) n) (idxs n))) ∧ Below w.heap.size w w' := by
  have h7 : n ≤ 7 := by omega
  have hE := eN_bd n (by omega)
  have HA : Hid (∀ W, Calls Tryz.prog 42 #[.int .i64 n] W fun e w' => e = .returned (.int .i64 (2 ^ eN n - 1 : Nat)) ∧ W = w') := Lib.hid (fun W => by
    have := allE_any (n : Int) W
    rw [allZ_pow hn] at this
    exact this)
  have HEL := Lib.hid (elementsE_any (eN n) hE w hT)
  have HED : Hid (∀ k : Nat, k < eN n → ∀ W, Calls Tryz.prog 31 #[.int .i64 n, .int .i64 k] W fun e w' => e = .returned (.tuple #[.int .i64 ((edL n k).1 : Nat), .int .i64 ((edL n k).2 : Nat)]) ∧ W = w') := Lib.hid (fun k hk W => by
    have h3 : 3 ≤ n := by
      rcases hn with rfl | h
      · rw [eN_zero] at hk; omega
      · exact h.1
    have := edgeAt_any (n : Int) (k : Int) (i64_nat (by omega)) W
    rw [edZ_in h3 h7 hk] at this
    exact this)
  have HDC : Hid (∀ x y : Nat, x < eN n → y < eN n → ∀ W, Below w.heap.size w W → Calls Tryz.prog 101 #[.map (some B), .int .i64 ((edL n x).1 : Nat), .int .i64 ((edL n x).2 : Nat), .int .i64 ((edL n y).1 : Nat), .int .i64 ((edL n y).2 : Nat)] W fun e w' => e = .returned (.bool (crX (sgnF f) n (x, y))) ∧ Below W.heap.size W w') := Lib.hid (fun x y hx hy W hW => by
    have hx := edL_lt h7 hx
    have hy := edL_lt h7 hy
    exact doCross_any B f _ _ _ _ (i64_nat (by omega)) (i64_nat (by omega)) (i64_nat (by omega)) (i64_nat (by omega)) W (hm.on hW))
  obtain ⟨L, hL⟩ : ∃ L : Nat → Nat → List Nat, L = fun x y => cxL (crX (sgnF f) n) (idxA x y) := ⟨_, rfl⟩
  have HLE : Hid (cxL (crX (sgnF f) n) (idxs n) = L (eN n) 0) := Lib.hid (by rw [hL]; show _ = cxL _ (idxA (eN n) 0); rw [idxA_all])
  rw [HLE.out]
  generalize crX (sgnF f) n = q at HDC hL
  have HLH : Hid (∀ x y, q (x, y) = true → L x (y + 1) = L x y ++ [2 ^ x ||| 2 ^ y]) := Lib.hid (fun x y h => by rw [hL]; show cxL q (idxA x (y + 1)) = _; rw [idxA_y, cxL_snoc, if_pos h]; rfl)
  have HLM : Hid (∀ x y, q (x, y) = false → L x (y + 1) = L x y) := Lib.hid (fun x y h => by rw [hL]; show cxL q (idxA x (y + 1)) = _; rw [idxA_y, cxL_snoc, if_neg (by rw [h]; simp), List.append_nil])
  have HLX : Hid (∀ x, L (x + 1) 0 = L x x) := Lib.hid (fun x => by rw [hL]; show cxL q (idxA (x + 1) 0) = _; rw [idxA_x])
  have HL0 : Hid (L 0 0 = []) := Lib.hid (by rw [hL]; rfl)
  have HLL : Hid (∀ x y, x ≤ 21 → y ≤ x → (L x y).length ≤ 462) := Lib.hid (fun x y hx hy => by rw [hL]; exact cxL_len q hx hy)
  generalize edL n = ed at HED HDC
  generalize eN n = E at HA HEL HED HDC hE HLE ⊢
  obtain ⟨i0, hi, hz0, hz1, hz2⟩ := info_parts infoI
  generalize (2 ^ E - 1 : Nat) = all at HA HEL
  clear hL hm hT HLE
  go_enter Tryz.func98, Tryz.ntmps98
  go_wp2_with fail
  refine (HA.out _).mono ?_
  rintro e w' ⟨rfl, rfl⟩
  go_wp2_with fail
  refine HEL.out.mono ?_
  rintro e w1 ⟨v, rfl, hv, hb1⟩
  obtain ⟨a, c, rfl, hel⟩ := elA_of hv
  have HE1 := Lib.hid hel
  have HB1 := Lib.hid hb1
  have HO0 : Hid (OwnsZ w1 w1.heap.size (.slice none 0 0) (zl [])) := Lib.hid (World.ownsRow_nil _ _ _ _)
  clear hv hel hb1
  go_wp2
  go_loopw [5, 17] (fun vv kv wr => ∃ x : Nat, x ≤ E ∧ kv = .int .i64 x ∧ Hid (OwnsZ wr w1.heap.size vv (zl (L x 0))) ∧ Hid (L x 0 = [] → vv = .slice none 0 0) ∧ Hid (Below w1.heap.size w1 wr)) (fun _ kv _ => E - (intOf kv).toNat)
  case atStart => exact ⟨0, Nat.zero_le _, rfl, Lib.hid (by rw [HL0.out]; exact HO0.out), Lib.hid (fun _ => rfl), Lib.hid (Below.refl _ _)⟩
  case round =>
    obtain ⟨x, hx, rfl, HO, HN, HB⟩ := hrel
    rename World => wA
    by_cases hlt : x < E
    · obtain ⟨g, rfl, hcell⟩ := HE1.out.on HB.out x hlt
      have HC := Lib.hid (HED.out x hlt)
      have HDX := Lib.hid (fun y hy => HDC.out x y hlt hy)
      have HLHX := Lib.hid (HLH.out x)
      have HLMX := Lib.hid (HLM.out x)
      have HLLX := Lib.hid (fun y hy => HLL.out x y (by omega) hy)
      have HLXX := Lib.hid (HLX.out x)
      generalize ed x = e1 at HC HDX
      obtain ⟨ea, eb⟩ := e1
      generalize L x = M at HO HN HLHX HLMX HLLX HLXX
      go_wp2_with fail
      refine (HC.out _).mono ?_
      rintro e w' ⟨rfl, rfl⟩
      go_wp2
      go_loopw [5, 28] (fun vv yv wr => ∃ y : Nat, y ≤ x ∧ yv = .int .i64 y ∧ Hid (OwnsZ wr w1.heap.size vv (zl (M y))) ∧ Hid (M y = [] → vv = .slice none 0 0) ∧ Hid (Below w1.heap.size w1 wr)) (fun _ yv _ => x - (intOf yv).toNat)
      case atStart => exact ⟨0, Nat.zero_le _, rfl, HO, HN, HB⟩
      case round =>
        obtain ⟨y, hy, rfl, HO2, HN2, HB2⟩ := hrel
        by_cases hlt2 : y < x
        · have HC2 := Lib.hid (HED.out y (by omega))
          have HD2 := Lib.hid (HDX.out y (by omega) _ (HB1.out.trans (HB2.out.mono HB1.out.size)))
          have HLH2 := Lib.hid (HLHX.out y)
          have HLM2 := Lib.hid (HLMX.out y)
          have hll := HLLX.out y (by omega)
          generalize ed y = e2 at HC2 HD2
          obtain ⟨ec, edd⟩ := e2
          generalize q (x, y) = r at HD2 HLH2 HLM2
          cases r
          · have HNN := Lib.hid (HLM2.out rfl)
            go_wp2_with fail
            refine (HC2.out _).mono ?_
            rintro e w' ⟨rfl, rfl⟩
            go_wp2_with fail
            refine HD2.out.mono ?_
            rintro e w3 ⟨rfl, hb3⟩
            have HO3 : Hid (OwnsZ w3 w1.heap.size _ (zl (M (y + 1)))) := Lib.hid (by rw [HNN.out]; exact ownsZ_on HO2.out hb3)
            have HN3 : Hid (M (y + 1) = [] → _ = Value.slice none 0 0) := Lib.hid (fun e => HN2.out (by rw [← HNN.out]; exact e))
            have HB3 := Lib.hid (HB2.out.trans (hb3.mono HB2.out.size))
            clear hb3
            go_wp2
            exact ⟨⟨y + 1, by omega, by go_num, HO3, HN3, HB3⟩, by simp only [intOf]; omega⟩
          · have HNN := Lib.hid (HLH2.out rfl)
            obtain ⟨s1, l1⟩ := shl_edge x (by omega)
            obtain ⟨s2, l2⟩ := shl_edge y (by omega)
            have o1 := bits_orE (2 ^ x) (2 ^ y) l1 l2
            generalize 2 ^ x ||| 2 ^ y = D at o1 HNN
            generalize (2 : Nat) ^ x = X at s1 o1 l1
            generalize (2 : Nat) ^ y = Y at s2 o1 l2
            have hzl : (zl (M y)).length ≤ 462 := by rw [zl_length]; exact hll
            go_wp2_with fail
            refine (HC2.out _).mono ?_
            rintro e w' ⟨rfl, rfl⟩
            go_wp2_with fail
            refine HD2.out.mono ?_
            rintro e w3 ⟨rfl, hb3⟩
            have HO3 : Hid (OwnsZ w3 w1.heap.size _ (zl (M y))) := Lib.hid (ownsZ_on HO2.out hb3)
            have HB3 := Lib.hid (HB2.out.trans (hb3.mono HB2.out.size))
            clear hb3
            go_wp2
            have hws := HB3.out.size
            go_region_law (refine step_appE _ (by rfl) _ _ _ (by rfl) w1.heap.size 3 i0 _ 1 8 Tryz.underlying27 hi hz0 hz1 hz2 rfl (by omega) _ _ _ (by rfl) ((World.ownsRow.alloc HO3.out _).drew) ⟨w3.heap.size, 0, none⟩ 1 1 [.int .i64 (D : Int)] (by rfl) (by rfl) (news1 _ _ _) (one1 _) (by simp only [maxLen]; omega) (by omega) (by simp; omega) ?_; intro v6 w6 hown6 hg6 _)
            have HB6 := Lib.hid ((HB3.out.alloc hws (.cells #[.int .i64 (D : Int)] 3)).drew.grown hg6 (by simp; omega) (fun k hk => (World.ownsRow.lt HO3.out k hk).1))
            have HO6 : Hid (OwnsZ w6 w1.heap.size v6 (zl (M (y + 1)))) := Lib.hid (by
              have := ownsZ_snoc (ys := [(D : Int)]) hown6
              rw [HNN.out, zl_snoc]
              exact this)
            have HN6 : Hid (M (y + 1) = [] → v6 = Value.slice none 0 0) := Lib.hid (fun e => by rw [HNN.out] at e; simp at e)
            clear hown6 hg6
            go_wp2
            exact ⟨⟨y + 1, by omega, by go_num, HO6, HN6, HB6⟩, by simp only [intOf]; omega⟩
        · obtain rfl : y = x := by omega
          have HO4 : Hid (OwnsZ _ w1.heap.size _ (zl (L (y + 1) 0))) := Lib.hid (by rw [HLXX.out]; exact HO2.out)
          have HN4 : Hid (L (y + 1) 0 = [] → _ = Value.slice none 0 0) := Lib.hid (fun e => HN2.out (by rw [← HLXX.out]; exact e))
          go_wp2
          exact ⟨⟨y + 1, by omega, by go_num, HO4, HN4, HB2⟩, by simp only [intOf]; omega⟩
    · obtain rfl : x = E := by omega
      have HR : Hid (ArgZ wA w.heap.size _ (zl (L x 0))) := Lib.hid ((ArgZ.of_own HO.out (fun e => HN.out (zl_nil e))).low HB1.out.size)
      go_wp2
      go_ret
      exact ⟨_, rfl, HR.out, HB1.out.trans (HB.out.mono HB1.out.size)⟩
end Go.Proofs.YtinlnafkmoabbaaGreatDoor.Sg
/- Crossing pairs, as impl tells them: CrossingPairs, IsPlane. -/
namespace Go.Proofs.YtinlnafkmoabbaaGreatDoor.Sg
open Go.RowKit Pt NewI
/-- How many of the first p sets lie within a set. -/
def cntL (S : Nat) (L : List Nat) (p : Nat) : Nat := (L.take p).countP fun c => S &&& c == c
theorem cntL_succ (S : Nat) {L : List Nat} {p : Nat} (h : p < L.length) : cntL S L (p + 1) = cntL S L p + bit (S &&& L.getD p 0 == L.getD p 0) := by
  unfold cntL
  rw [take_snoc h, cnt_snoc]
theorem cntL_all (S : Nat) (L : List Nat) : cntL S L L.length = L.countP fun c => S &&& c == c := by unfold cntL; rw [List.take_length]
theorem cntL_le (S : Nat) (L : List Nat) (p : Nat) : cntL S L p ≤ p := by
  unfold cntL
  exact Nat.le_trans List.countP_le_length (by rw [List.length_take]; omega)
theorem getD_mem {L : List Nat} {k : Nat} (h : k < L.length) : L.getD k 0 ∈ L := by
  rw [List.getD_eq_getElem?_getD, List.getElem?_eq_getElem h]
  exact List.getElem_mem h
theorem beq_castN (a b : Nat) : (((a : Nat) : Int) == ((b : Nat) : Int)) = (a == b) := by
  rw [Bool.eq_iff_iff, beq_iff_eq, beq_iff_eq]; omega
theorem cpZ_no {n : Int} {s : List UInt8} (h : aciB n s = false) (S : Int) : cpZ n s S = -1 := by unfold cpZ; rw [h]; simp
/-- The sets of crossing edges of order signs. -/
def crL (n : Nat) (s : List UInt8) : List Nat := cxL (crE (sgnF (lookS n s)) n) (idxs n)
theorem crL_is {n : Nat} {s : List UInt8} (h : aciB n s = true) : cxL (crX (sgnF (lookS n s)) n) (idxs n) = crL n s :=
  cxL_congr fun p hp => by
    obtain ⟨h1, h2⟩ := mem_idxs.1 hp
    exact crX_crE h h2 (by omega)
theorem crL_len {n : Nat} (s : List UInt8) (h7 : n ≤ 7) : (crL n s).length ≤ 462 := by
  unfold crL
  rw [← idxA_all]
  exact cxL_len _ (eN_bd n (by omega)) (Nat.zero_le _)
set_option maxHeartbeats 1600000 in
set_option maxRecDepth 100000 in
theorem implCrossings (n : Int) (s : ByteArray) (hs : s.size ≤ 9223372036854775807) (S : Int) (w : World) (hT : Tab w) :
    Calls Tryz.prog 35 #[sg n s, .int .i64 S] w fun e w' => e = .returned (.int .i64 (cpZ n s.data.toList S)) ∧ Below w.heap.size w w' := by
  have HS := Lib.hid (box_made w n s 25)
  have HT := Lib.hid (fun W hW => hT.on (w' := W) hW)
  clear hT
  have HES := Lib.hid (fun N W => edgeSet_any N S W)
  cases h : aciB n s.data.toList
  · have HO := Lib.hid (fun W hW => orderOf_no n s hs h W (HT.out W hW))
    have HE := Lib.hid (cpZ_no h S)
    have HES0 : Hid (∀ W, Calls Tryz.prog 85 #[.int .i64 0, .int .i64 S] W fun e w' => e = .returned (.bool false) ∧ W = w') := Lib.hid (fun W => HES.out 0 W)
    rw [HE.out]
    clear h HE HES
    go_enter Tryz.func35, Tryz.ntmps35
    go_wp2_with fail
    refine (HO.out _ HS.out.2.2).mono ?_
    rintro e w1 ⟨b, rfl, hb1⟩
    have B1 := Lib.hid (HS.out.on hb1).2.2
    clear hb1
    go_wp2_with fail
    refine (HES0.out _).mono ?_
    rintro e w' ⟨rfl, rfl⟩
    go_wp2
    go_ret
    exact ⟨rfl, B1.out⟩
  · obtain ⟨h3, h7⟩ := aciB_n h
    obtain ⟨m, rfl⟩ : ∃ m : Nat, n = m := ⟨n.toNat, by omega⟩
    have HO := Lib.hid (fun W hW => orderOf_yes m s hs h W (HT.out W hW))
    obtain ⟨K, hK, hKb⟩ := allZ_small m
    have HESm : Hid (∀ W, Calls Tryz.prog 85 #[.int .i64 m, .int .i64 S] W fun e w' => e = .returned (.bool (inB S 0 (K : Int))) ∧ W = w') := Lib.hid (fun W => by
      have := HES.out m W
      rw [inB_yes h3 h7, Bool.true_and, hK] at this
      exact this)
    clear HES
    by_cases hin : inB S 0 (K : Int) = false
    · have HE : Hid (cpZ m s.data.toList S = -1) := Lib.hid (by unfold cpZ; rw [if_neg]; rintro ⟨-, e⟩; rw [hK, hin] at e; cases e)
      rw [HE.out]
      rw [hin] at HESm
      clear h hK HE
      go_enter Tryz.func35, Tryz.ntmps35
      go_wp2_with fail
      refine (HO.out _ HS.out.2.2).mono ?_
      rintro e w1 ⟨b, g, c, rfl, -, -, -, hb1⟩
      have B1 := Lib.hid (HS.out.on hb1).2.2
      clear hb1
      go_wp2_with fail
      refine (HESm.out _).mono ?_
      rintro e w' ⟨rfl, rfl⟩
      go_wp2
      go_ret
      exact ⟨rfl, B1.out⟩
    · have hin : inB S 0 (K : Int) = true := by simpa using hin
      obtain ⟨hs0, hsK⟩ := inB_mem hin
      rw [hin] at HESm
      obtain ⟨S, rfl⟩ : ∃ x : Nat, S = x := ⟨S.toNat, by omega⟩
      have HE : Hid (cpZ m s.data.toList S = (cntL S (crL m s.data.toList) (crL m s.data.toList).length : Nat)) := Lib.hid (by
        unfold cpZ
        rw [if_pos ⟨h, by rw [hK]; exact inB_yes (by omega) (by omega)⟩, Int.toNat_natCast, Int.toNat_natCast, cntL_all]
        unfold crL
        rw [cxL_count])
      have HCR : Hid (∀ b W, MapIs W b (lookS m s.data.toList) → Tab W → Calls Tryz.prog 98 #[.map (some b), .int .i64 m] W fun e w' => ∃ v, e = .returned v ∧ ArgZ w' W.heap.size v (zl (crL m s.data.toList)) ∧ Below W.heap.size W w') := Lib.hid (fun b W hm hT => by
        have := crossingsOf_any b (lookS m s.data.toList) m (.inr ⟨by omega, by omega⟩) W hm hT
        rw [crL_is h] at this
        exact this)
      have HLN := Lib.hid (crL_len (n := m) s.data.toList (by omega))
      have HSM : Hid (∀ c ∈ crL m s.data.toList, c < 2097152) := Lib.hid (fun c hc => cxL_small _ (by omega) c hc)
      rw [HE.out]
      generalize crL m s.data.toList = L at HCR HLN HSM ⊢
      have HCS := Lib.hid (fun p (hp : p < L.length) => cntL_succ S hp)
      have HCL := Lib.hid (cntL_le S L)
      have HC0 : Hid (cntL S L 0 = 0) := Lib.hid rfl
      generalize cntL S L = q at HCS HCL HC0 ⊢
      have hS21 : S < 2097152 := by omega
      have hln := HLN.out
      clear h hK HE hin
      go_enter Tryz.func35, Tryz.ntmps35
      go_wp2_with fail
      refine (HO.out _ HS.out.2.2).mono ?_
      rintro e w1 ⟨b, g, c, rfl, hm, -, -, hb1⟩
      have X1 := Lib.hid (HS.out.on hb1)
      have M1 := Lib.hid hm
      obtain ⟨x0, x1, B1⟩ := X1.out
      clear hb1 hm
      go_wp2_with fail
      refine (HESm.out _).mono ?_
      rintro e w' ⟨rfl, rfl⟩
      go_wp2_with fail
      refine (HCR.out _ _ M1.out (HT.out _ B1)).mono ?_
      rintro e w2 ⟨v, rfl, hv, hb2⟩
      obtain ⟨a, c2, rfl, hls⟩ := lsA_of hv
      have LS := Lib.hid hls
      have B2 := Lib.hid (B1.trans (hb2.mono B1.size))
      obtain ⟨N, hN⟩ : ∃ N, N = L.length := ⟨_, rfl⟩
      rw [← hN] at hln ⊢
      have HNL := Lib.hid hN
      clear hv hls hb2 x0 x1 hN
      go_wp2
      go_loopw [7, 25] (fun cv kv wr => ∃ p : Nat, p ≤ N ∧ kv = .int .i64 p ∧ cv = .int .i64 (q p : Nat) ∧ wr = w2) (fun _ kv _ => N - (intOf kv).toNat)
      case atStart => exact ⟨0, Nat.zero_le _, rfl, by rw [HC0.out]; rfl, rfl⟩
      case round =>
        obtain ⟨p, hp, rfl, rfl, rfl⟩ := hrel
        have hql := HCL.out p
        by_cases hlt : p < N
        · have hpl : p < L.length := by have := HNL.out; omega
          obtain ⟨g2, rfl, hcell⟩ := LS.out p hpl
          have hc21 := HSM.out _ (getD_mem hpl)
          have hQ := HCS.out p hpl
          generalize L.getD p 0 = d at hcell hc21 hQ
          have hand := bits_andE S d hS21 hc21
          have hbq := beq_castN (S &&& d) d
          generalize S &&& d = ad at hand hbq hQ
          cases hr : (ad == d)
          · rw [hr] at hbq hQ
            have HQ2 : Hid (q (p + 1) = q p) := Lib.hid hQ
            clear hQ hr
            go_wp2
            exact ⟨⟨p + 1, by omega, by go_num, by rw [HQ2.out], by trivial⟩, by simp only [intOf]; omega⟩
          · rw [hr] at hbq hQ
            have HQ2 : Hid (q (p + 1) = q p + 1) := Lib.hid hQ
            clear hQ hr
            go_wp2
            exact ⟨⟨p + 1, by omega, by go_num, by rw [HQ2.out]; go_num, by trivial⟩, by simp only [intOf]; omega⟩
        · obtain rfl : p = N := by omega
          go_wp2
          go_ret
          exact ⟨ret_int (by rw [← HNL.out]), B2.out⟩
set_option maxHeartbeats 800000 in
set_option maxRecDepth 100000 in
theorem implPlane (n : Int) (s : ByteArray) (hs : s.size ≤ 9223372036854775807) (S : Int) (w : World) (hT : Tab w) :
    Calls Tryz.prog 48 #[sg n s, .int .i64 S] w fun e w' => e = .returned (.bool (cpZ n s.data.toList S == 0)) ∧ Below w.heap.size w w' := by
  have HS := Lib.hid (box_made w n s 25)
  have HT := Lib.hid (fun W hW => hT.on (w' := W) hW)
  have HP := Lib.hid (fun W hW => implCrossings n s hs S W hW)
  generalize cpZ n s.data.toList S = v at HP ⊢
  clear hT
  go_enter Tryz.func48, Tryz.ntmps48
  go_wp2_with fail
  refine (HP.out _ (HT.out _ HS.out.2.2)).mono ?_
  rintro e w1 ⟨rfl, hb1⟩
  have B1 := Lib.hid (HS.out.on hb1).2.2
  clear hb1
  go_wp2
  go_ret
  exact ⟨rfl, B1.out⟩
end Go.Proofs.YtinlnafkmoabbaaGreatDoor.Sg
/- The hull's edges and the free edges, as impl tells them: HullEdges, FreeEdges. -/
namespace Go.Proofs.YtinlnafkmoabbaaGreatDoor.Sg
open Go.RowKit Pt NewI
theorem huZ_no {n : Int} {s : List UInt8} (h : aciB n s = false) : huZ n s = 0 := by unfold huZ; rw [h]; rfl
theorem frZ_no {n : Int} {s : List UInt8} (h : aciB n s = false) : frZ n s = 0 := by unfold frZ; rw [h]; rfl
theorem setN_ltE (q : Nat → Bool) {k : Nat} (hk : k ≤ 21) : setN q k < 2097152 := Nat.lt_of_lt_of_le (setN_lt q k) (Nat.pow_le_pow_right (n := 2) (by omega) hk)
set_option maxHeartbeats 1600000 in
set_option maxRecDepth 100000 in
theorem implHullEdges (n : Int) (s : ByteArray) (hs : s.size ≤ 9223372036854775807) (w : World) (hT : Tab w) :
    Calls Tryz.prog 44 #[sg n s] w fun e w' => e = .returned (.int .i64 (huZ n s.data.toList)) ∧ Below w.heap.size w w' := by
  have HS := Lib.hid (box_made w n s 25)
  have HT := Lib.hid (fun W hW => hT.on (w' := W) hW)
  clear hT
  cases h : aciB n s.data.toList
  · have HO := Lib.hid (fun W hW => orderOf_no n s hs h W (HT.out W hW))
    have HE := Lib.hid (huZ_no h)
    have HAL : Hid (∀ W, Calls Tryz.prog 42 #[.int .i64 0] W fun e w' => e = .returned (.int .i64 0) ∧ W = w') := Lib.hid (fun W => by
      have := allE_any 0 W
      rw [allZ_out (by omega)] at this
      exact this)
    have HEL : Hid (∀ W, Tab W → Calls Tryz.prog 90 #[.int .i64 0] W fun e w' => ∃ a c, e = .returned (.slice a 0 c) ∧ Below W.heap.size W w') := Lib.hid (fun W hW => by
      refine (elementsE_any 0 (by omega) W hW).mono ?_
      rintro e w' ⟨v, rfl, hv, hb⟩
      obtain ⟨a, c, rfl, -⟩ := elA_of hv
      exact ⟨a, c, rfl, hb⟩)
    rw [HE.out]
    clear h HE
    go_enter Tryz.func44, Tryz.ntmps44
    go_wp2_with fail
    refine (HO.out _ HS.out.2.2).mono ?_
    rintro e w1 ⟨b, rfl, hb1⟩
    have B1 := Lib.hid (HS.out.on hb1).2.2
    clear hb1
    go_wp2_with fail
    refine (HAL.out _).mono ?_
    rintro e w' ⟨rfl, rfl⟩
    go_wp2_with fail
    refine (HEL.out _ (HT.out _ B1.out)).mono ?_
    rintro e w2 ⟨a, c, rfl, hb2⟩
    have B2 := Lib.hid (B1.out.trans (hb2.mono B1.out.size))
    clear hb2
    go_wp2
    refine wp_loop_rounds 1 ?_
    rw [rounds_succ]
    go_wp2
    go_ret
    exact ⟨rfl, B2.out⟩
  · obtain ⟨h3, h7⟩ := aciB_n h
    obtain ⟨m, rfl⟩ : ∃ m : Nat, n = m := ⟨n.toNat, by omega⟩
    have h7 : m ≤ 7 := by omega
    have har := matB_ar (aciB_mat h)
    have HO := Lib.hid (fun W hW => orderOf_yes m s hs h W (HT.out W hW))
    have hE := eN_bd m (by omega)
    have HAL : Hid (∀ W, Calls Tryz.prog 42 #[.int .i64 m] W fun e w' => e = .returned (.int .i64 (2 ^ eN m - 1 : Nat)) ∧ W = w') := Lib.hid (fun W => by
      have := allE_any (m : Int) W
      rw [allZ_pow (.inr ⟨by omega, by omega⟩)] at this
      exact this)
    have HEL := Lib.hid (fun W hW => elementsE_any (eN m) hE W hW)
    have HED : Hid (∀ k : Nat, k < eN m → ∀ W, Calls Tryz.prog 31 #[.int .i64 m, .int .i64 k] W fun e w' => e = .returned (.tuple #[.int .i64 ((edL m k).1 : Nat), .int .i64 ((edL m k).2 : Nat)]) ∧ W = w') := Lib.hid (fun k hk W => by
      have := edgeAt_any (m : Int) (k : Int) (i64_nat (by omega)) W
      rw [edZ_in (by omega) h7 hk] at this
      exact this)
    have HLC : Hid (∀ k : Nat, k < eN m → ∀ b g c W, MapIs W b (lookS m s.data.toList) → ElsIs W g m →
        Calls Tryz.prog 104 #[.map (some b), .slice (some ⟨g, 0, none⟩) m c, .int .i64 ((edL m k).1 : Nat), .int .i64 ((edL m k).2 : Nat)] W (fun e w' => e = .returned (.int .i64 (leftN (sgnF (lookS m s.data.toList)) m (edL m k).1 (edL m k).2 : Nat)) ∧ Below W.heap.size W w') ∧
        ∀ W', Below W.heap.size W W' → Calls Tryz.prog 104 #[.map (some b), .slice (some ⟨g, 0, none⟩) m c, .int .i64 ((edL m k).2 : Nat), .int .i64 ((edL m k).1 : Nat)] W' (fun e w' => e = .returned (.int .i64 (leftN (sgnF (lookS m s.data.toList)) m (edL m k).2 (edL m k).1 : Nat)) ∧ Below W'.heap.size W' w')) := Lib.hid (fun k hk b g c W hm he => by
      obtain ⟨e1, e2⟩ := edL_lt h7 hk
      refine ⟨?_, fun W' hW => ?_⟩
      · have := leftCount_any b g c m h7 (lookS m s.data.toList) (edL m k).1 (edL m k).2 (by omega) (by omega) W hm he
        rw [leK_eq har (by omega) (by omega) (by omega)] at this
        exact this
      · have := leftCount_any b g c m h7 (lookS m s.data.toList) (edL m k).2 (edL m k).1 (by omega) (by omega) W' (hm.on hW) (he.on hW)
        rw [leK_eq har (by omega) (by omega) (by omega)] at this
        exact this)
    have HQ : Hid (∀ k, hB (sgnF (lookS m s.data.toList)) m k = (leftN (sgnF (lookS m s.data.toList)) m (edL m k).1 (edL m k).2 == 0 || leftN (sgnF (lookS m s.data.toList)) m (edL m k).2 (edL m k).1 == 0)) := Lib.hid (fun k => rfl)
    have HE : Hid (huZ m s.data.toList = (setN (hB (sgnF (lookS m s.data.toList)) m) (eN m) : Nat)) := Lib.hid (by unfold huZ hullE; rw [if_pos h, Int.toNat_natCast])
    rw [HE.out]
    generalize hB (sgnF (lookS m s.data.toList)) m = q at HQ ⊢
    generalize leftN (sgnF (lookS m s.data.toList)) m = LN at HQ HLC
    have HSO := Lib.hid (fun k => setN_or (q := q) (k := k))
    have HSN := Lib.hid (fun k => setN_no (q := q) (k := k))
    have HSL := Lib.hid (fun k (hk : k ≤ 21) => setN_ltE q hk)
    have HS0 : Hid (setN q 0 = 0) := Lib.hid rfl
    generalize setN q = st at HSO HSN HSL HS0 ⊢
    generalize edL m = ed at HED HLC HQ
    generalize eN m = E at HAL HEL HED HLC hE ⊢
    generalize (2 ^ E - 1 : Nat) = all at HAL HEL
    clear h har HE
    go_enter Tryz.func44, Tryz.ntmps44
    go_wp2_with fail
    refine (HO.out _ HS.out.2.2).mono ?_
    rintro e w1 ⟨b, g, c, rfl, hm, he, -, hb1⟩
    have X1 := Lib.hid (HS.out.on hb1)
    have M1 := Lib.hid hm
    have E1 := Lib.hid he
    obtain ⟨x0, x1, B1⟩ := X1.out
    clear hb1 hm he
    go_wp2_with fail
    refine (HAL.out _).mono ?_
    rintro e w' ⟨rfl, rfl⟩
    go_wp2_with fail
    refine (HEL.out _ (HT.out _ B1)).mono ?_
    rintro e w2 ⟨v, rfl, hv, hb2⟩
    obtain ⟨a, c2, rfl, hel⟩ := elA_of hv
    have HE2 := Lib.hid hel
    have X2 := Lib.hid (X1.out.on hb2)
    have M2 := Lib.hid (M1.out.on hb2)
    have E2 := Lib.hid (E1.out.on hb2)
    clear hv hel hb2 x0 x1 B1
    go_wp2
    go_loopw [5, 20] (fun ov kv wr => ∃ k t : Nat, k ≤ E ∧ kv = .int .i64 k ∧ ov = .int .i64 t ∧ t < 2097152 ∧ Hid (t = st k) ∧ Hid (Box w m s wr) ∧ Hid (Below w2.heap.size w2 wr)) (fun _ kv _ => E - (intOf kv).toNat)
    case atStart => exact ⟨0, 0, Nat.zero_le _, rfl, rfl, by omega, Lib.hid HS0.out.symm, X2, Lib.hid (Below.refl _ _)⟩
    case round =>
      obtain ⟨k, t, hk, rfl, rfl, ht, HTT, HX, HB⟩ := hrel
      obtain ⟨x0, x1, B1⟩ := HX.out
      by_cases hlt : k < E
      · obtain ⟨g2, rfl, hcell⟩ := HE2.out.on HB.out k hlt
        have HC := Lib.hid (HED.out k hlt)
        have HLK := Lib.hid (fun W (hW : Below w2.heap.size w2 W) => HLC.out k hlt b g c W (M2.out.on hW) (E2.out.on hW))
        have HQK := Lib.hid (HQ.out k)
        have HOK := Lib.hid (HSO.out k)
        have HNK := Lib.hid (HSN.out k)
        have hl1 := HSL.out (k + 1) (by omega)
        generalize ed k = e1 at HC HLK HQK
        obtain ⟨ea, eb⟩ := e1
        dsimp only at HC HLK HQK
        generalize LN ea eb = l1 at HLK HQK
        generalize LN eb ea = l2 at HLK HQK
        obtain ⟨s1, p1⟩ := shl_edge k (by omega)
        have o1 := bits_orE t (2 ^ k) ht p1
        have HTK : Hid (q k = true → st (k + 1) = t ||| 2 ^ k) := Lib.hid (fun e => by rw [HOK.out e, HTT.out])
        have HTN : Hid (q k = false → st (k + 1) = t) := Lib.hid (fun e => by rw [HNK.out e, HTT.out])
        generalize t ||| 2 ^ k = o at o1 HTK
        generalize (2 : Nat) ^ k = P at s1 o1 p1
        have z1 : (((l1 : Nat) : Int) == 0) = (l1 == 0) := by rw [Bool.eq_iff_iff, beq_iff_eq, beq_iff_eq]; omega
        have z2 : (((l2 : Nat) : Int) == 0) = (l2 == 0) := by rw [Bool.eq_iff_iff, beq_iff_eq, beq_iff_eq]; omega
        cases h1 : (l1 == 0)
        · rw [h1] at z1 HQK
          have HC1 := Lib.hid (HLK.out _ HB.out).1
          cases h2 : (l2 == 0)
          · rw [h2] at z2 HQK
            have HR := Lib.hid (HTN.out HQK.out)
            clear h1 h2
            go_wp2_with fail
            refine (HC.out _).mono ?_
            rintro e w' ⟨rfl, rfl⟩
            go_wp2_with fail
            refine HC1.out.mono ?_
            rintro e w3 ⟨rfl, hb3⟩
            have HC2 := Lib.hid ((HLK.out _ HB.out).2 _ hb3)
            have HX3 := Lib.hid (HX.out.on hb3)
            have HB3 := Lib.hid (HB.out.trans (hb3.mono HB.out.size))
            clear hb3 x0 x1 B1
            go_wp2_with fail
            refine HC2.out.mono ?_
            rintro e w4 ⟨rfl, hb4⟩
            have HX4 := Lib.hid (HX3.out.on hb4)
            have HB4 := Lib.hid (HB3.out.trans (hb4.mono HB3.out.size))
            clear hb4
            go_wp2
            exact ⟨⟨k + 1, t, by omega, by go_num, by trivial, ht, Lib.hid HR.out.symm, HX4, HB4⟩, by simp only [intOf]; omega⟩
          · rw [h2] at z2 HQK
            have HR := Lib.hid (HTK.out HQK.out)
            have ho : o < 2097152 := by rw [← HR.out]; exact hl1
            clear h1 h2
            go_wp2_with fail
            refine (HC.out _).mono ?_
            rintro e w' ⟨rfl, rfl⟩
            go_wp2_with fail
            refine HC1.out.mono ?_
            rintro e w3 ⟨rfl, hb3⟩
            have HC2 := Lib.hid ((HLK.out _ HB.out).2 _ hb3)
            have HX3 := Lib.hid (HX.out.on hb3)
            have HB3 := Lib.hid (HB.out.trans (hb3.mono HB.out.size))
            clear hb3 x0 x1 B1
            go_wp2_with fail
            refine HC2.out.mono ?_
            rintro e w4 ⟨rfl, hb4⟩
            have HX4 := Lib.hid (HX3.out.on hb4)
            have HB4 := Lib.hid (HB3.out.trans (hb4.mono HB3.out.size))
            clear hb4
            go_wp2
            exact ⟨⟨k + 1, o, by omega, by go_num, by trivial, ho, Lib.hid HR.out.symm, HX4, HB4⟩, by simp only [intOf]; omega⟩
        · rw [h1] at z1 HQK
          have HC1 := Lib.hid (HLK.out _ HB.out).1
          have HR := Lib.hid (HTK.out HQK.out)
          have ho : o < 2097152 := by rw [← HR.out]; exact hl1
          clear h1
          go_wp2_with fail
          refine (HC.out _).mono ?_
          rintro e w' ⟨rfl, rfl⟩
          go_wp2_with fail
          refine HC1.out.mono ?_
          rintro e w3 ⟨rfl, hb3⟩
          have HX3 := Lib.hid (HX.out.on hb3)
          have HB3 := Lib.hid (HB.out.trans (hb3.mono HB.out.size))
          clear hb3 x0 x1 B1
          go_wp2
          exact ⟨⟨k + 1, o, by omega, by go_num, by trivial, ho, Lib.hid HR.out.symm, HX3, HB3⟩, by simp only [intOf]; omega⟩
      · obtain rfl : k = E := by omega
        go_wp2
        go_ret
        exact ⟨ret_int (by rw [HTT.out]), B1⟩
/-- A set without the first p of a list's sets. -/
def frT (A : Nat) (L : List Nat) (p : Nat) : Nat := frW A (L.take p)
theorem frT_succ (A : Nat) {L : List Nat} {p : Nat} (h : p < L.length) : frT A L (p + 1) = frT A L p ^^^ (frT A L p &&& L.getD p 0) := by
  unfold frT
  rw [take_snoc h, frW_snoc]
theorem frT_all (A : Nat) (L : List Nat) : frT A L L.length = frW A L := by unfold frT; rw [List.take_length]
set_option maxHeartbeats 1600000 in
set_option maxRecDepth 100000 in
theorem implFreeEdges (n : Int) (s : ByteArray) (hs : s.size ≤ 9223372036854775807) (w : World) (hT : Tab w) :
    Calls Tryz.prog 46 #[sg n s] w fun e w' => e = .returned (.int .i64 (frZ n s.data.toList)) ∧ Below w.heap.size w w' := by
  have HS := Lib.hid (box_made w n s 25)
  have HT := Lib.hid (fun W hW => hT.on (w' := W) hW)
  clear hT
  have KEY : ∃ (m K : Nat) (L : List Nat), (m = 0 ∨ (3 ≤ m ∧ m ≤ 7)) ∧ K < 2097152 ∧ L.length ≤ 462 ∧ (∀ c ∈ L, c < 2097152) ∧ frZ n s.data.toList = (frW K L : Nat) ∧ allZ m = K ∧
      ∀ W, Tab W → Calls Tryz.prog 97 #[sg n s] W fun e w' => ∃ b a c, e = .returned (.tuple #[.map (some b), .slice a m c]) ∧ Below W.heap.size W w' ∧
        ∀ W', Below w'.heap.size w' W' → Tab W' → Calls Tryz.prog 98 #[.map (some b), .int .i64 m] W' fun e w' => ∃ v, e = .returned v ∧ ArgZ w' W'.heap.size v (zl L) ∧ Below W'.heap.size W' w' := by
    cases h : aciB n s.data.toList
    · refine ⟨0, 0, [], .inl rfl, by omega, by simp, fun c hc => by simp at hc, by rw [frZ_no h]; rfl, allZ_out (by omega), fun W hW => ?_⟩
      refine (orderOf_any n s hs W hW).mono ?_
      rintro e w' ⟨b, v, rfl, hm, hv, hb⟩
      rw [elsN_no h] at hv
      rcases hv with ⟨-, rfl⟩ | ⟨h0, -⟩
      · exact ⟨b, none, 0, rfl, hb, fun W' hW' hT' => crossingsOf_any b _ 0 (.inl rfl) W' (hm.on hW') hT'⟩
      · exact absurd rfl h0
    · obtain ⟨h3, h7⟩ := aciB_n h
      obtain ⟨m, rfl⟩ : ∃ m : Nat, n = m := ⟨n.toNat, by omega⟩
      have h7 : m ≤ 7 := by omega
      have hp := Nat.pow_le_pow_right (n := 2) (by omega) (eN_bd m (by omega))
      refine ⟨m, 2 ^ eN m - 1, crL m s.data.toList, .inr ⟨by omega, h7⟩, by omega, crL_len _ h7, fun c hc => cxL_small _ h7 c hc, ?_, allZ_pow (.inr ⟨by omega, h7⟩), fun W hW => ?_⟩
      · unfold crL frZ
        rw [free_fold h, if_pos h, Int.toNat_natCast]
      · refine (orderOf_yes m s hs h W hW).mono ?_
        rintro e w' ⟨b, g, c, rfl, hm, -, -, hb⟩
        refine ⟨b, _, c, rfl, hb, fun W' hW' hT' => ?_⟩
        have := crossingsOf_any b (lookS m s.data.toList) m (.inr ⟨by omega, h7⟩) W' (hm.on hW') hT'
        rw [crL_is h] at this
        exact this
  obtain ⟨m, K, L, hm, hK, hln, hsm, hfr, hal, horder⟩ := KEY
  have HO := Lib.hid horder
  have HAL := Lib.hid (fun W => allE_any (m : Int) W)
  rw [hal] at HAL
  rw [hfr, ← frT_all]
  have HSM := Lib.hid hsm
  have HF0 : Hid (frT K L 0 = K) := Lib.hid rfl
  have HFS := Lib.hid (fun p (hp : p < L.length) => frT_succ K hp)
  generalize frT K L = q at HF0 HFS ⊢
  obtain ⟨N, hN⟩ : ∃ N, N = L.length := ⟨_, rfl⟩
  have hnN : N ≤ 462 := by omega
  have HNL := Lib.hid hN
  have hm7 : m ≤ 7 := by omega
  clear horder hal hfr hsm hm hln hN
  go_enter Tryz.func46, Tryz.ntmps46
  go_wp2_with fail
  refine (HO.out _ (HT.out _ HS.out.2.2)).mono ?_
  rintro e w1 ⟨b, a, c, rfl, hb1, hcr⟩
  have B1 := Lib.hid (HS.out.on hb1).2.2
  have HCR := Lib.hid (hcr _ (Below.refl _ _) (HT.out _ (HS.out.on hb1).2.2))
  clear hb1 hcr
  go_wp2_with fail
  refine (HAL.out _).mono ?_
  rintro e w' ⟨rfl, rfl⟩
  go_wp2_with fail
  refine HCR.out.mono ?_
  rintro e w2 ⟨v, rfl, hv, hb2⟩
  obtain ⟨a2, c2, rfl, hls⟩ := lsA_of hv
  have LS := Lib.hid hls
  have B2 := Lib.hid (B1.out.trans (hb2.mono B1.out.size))
  rw [← HNL.out]
  clear hv hls hb2 HCR
  go_wp2
  go_loopw [5, 21] (fun ov kv wr => ∃ p t : Nat, p ≤ N ∧ kv = .int .i64 p ∧ ov = .int .i64 t ∧ t < 2097152 ∧ Hid (t = q p) ∧ wr = w2) (fun _ kv _ => N - (intOf kv).toNat)
  case atStart => exact ⟨0, K, Nat.zero_le _, rfl, rfl, hK, Lib.hid HF0.out.symm, rfl⟩
  case round =>
    obtain ⟨p, t, hp, rfl, rfl, ht, HTT, rfl⟩ := hrel
    by_cases hlt : p < N
    · have hpl : p < L.length := by have := HNL.out; omega
      obtain ⟨g2, rfl, hcell⟩ := LS.out p hpl
      have hc21 := HSM.out _ (getD_mem hpl)
      have HQ := Lib.hid (HFS.out p hpl)
      rw [← HTT.out] at HQ
      generalize L.getD p 0 = d at hcell hc21 HQ
      obtain ⟨o1, o2⟩ := bits_andNotE t d ht hc21
      generalize t ^^^ (t &&& d) = o at o1 o2 HQ
      go_wp2
      exact ⟨⟨p + 1, o, by omega, by go_num, by trivial, o2, Lib.hid HQ.out.symm, by trivial⟩, by simp only [intOf]; omega⟩
    · obtain rfl : p = N := by omega
      go_wp2
      go_ret
      exact ⟨ret_int (by rw [HTT.out, ← HNL.out]), B2.out⟩
end Go.Proofs.YtinlnafkmoabbaaGreatDoor.Sg
