/- Several texts in one: KsMath, KsEdge, KsDo. -/
import Derived.Test.YtpjjohbahhaeoaaMgKr
/- Crossings, as impl tells them, on plain functions: the circuit of crossing edges, the list of crossing pairs, sets of edges. -/
namespace Go.Proofs.Ytpjjohbahhaeoaa.Sg
open Go.RowKit Pt NewI
theorem bits_orE (a b : Nat) (ha : a < 2097152) (hb : b < 2097152) : bits BinOp.or IntKind.i64 (a : Int) (b : Int) = ((a ||| b : Nat) : Int) := by
  have hl : a ||| b < 2097152 := Nat.or_lt_two_pow (n := 21) ha hb
  show IntKind.i64.wrap ((BitVec.ofInt 64 a ||| BitVec.ofInt 64 b).toNat : Int) = _
  rw [BitVec.toNat_or, BitVec.ofInt_natCast, BitVec.ofInt_natCast, BitVec.toNat_ofNat, BitVec.toNat_ofNat, Nat.mod_eq_of_lt (by omega), Nat.mod_eq_of_lt (by omega), IntKind.wrap_i64]
  omega
theorem bits_andE (a b : Nat) (ha : a < 2097152) (hb : b < 2097152) : bits BinOp.and IntKind.i64 (a : Int) (b : Int) = ((a &&& b : Nat) : Int) := by
  have hl : a &&& b < 2097152 := Nat.and_lt_two_pow (n := 21) a hb
  show IntKind.i64.wrap ((BitVec.ofInt 64 a &&& BitVec.ofInt 64 b).toNat : Int) = _
  rw [BitVec.toNat_and, BitVec.ofInt_natCast, BitVec.ofInt_natCast, BitVec.toNat_ofNat, BitVec.toNat_ofNat, Nat.mod_eq_of_lt (by omega), Nat.mod_eq_of_lt (by omega), IntKind.wrap_i64]
  omega
theorem bits_andNotE (a b : Nat) (ha : a < 2097152) (hb : b < 2097152) : bits BinOp.andNot IntKind.i64 (a : Int) (b : Int) = ((a ^^^ (a &&& b) : Nat) : Int) ∧ a ^^^ (a &&& b) < 2097152 := by
  have hl : a ^^^ (a &&& b) < 2097152 := Nat.xor_lt_two_pow (n := 21) ha (Nat.and_lt_two_pow (n := 21) a hb)
  refine ⟨?_, hl⟩
  show IntKind.i64.wrap ((BitVec.ofInt 64 a &&& ~~~ BitVec.ofInt 64 b).toNat : Int) = _
  have hx : (BitVec.ofInt 64 (a : Int) &&& ~~~ BitVec.ofInt 64 (b : Int)) = BitVec.ofInt 64 (a : Int) ^^^ (BitVec.ofInt 64 (a : Int) &&& BitVec.ofInt 64 (b : Int)) := by
    ext i hi
    simp only [BitVec.getElem_and, BitVec.getElem_not, BitVec.getElem_xor]
    cases (BitVec.ofInt 64 (a : Int))[i] <;> cases (BitVec.ofInt 64 (b : Int))[i] <;> rfl
  rw [hx, BitVec.toNat_xor, BitVec.toNat_and, BitVec.ofInt_natCast, BitVec.ofInt_natCast, BitVec.toNat_ofNat, BitVec.toNat_ofNat, Nat.mod_eq_of_lt (by omega), Nat.mod_eq_of_lt (by omega), IntKind.wrap_i64]
  omega
theorem shl_edge (x : Nat) (hx : x < 21) : IntKind.i64.wrap ((2 : Int) ^ x) = ((2 ^ x : Nat) : Int) ∧ 2 ^ x < 2097152 := by
  have h : 2 ^ x < 2097152 := Nat.pow_lt_pow_right (a := 2) (by omega) hx
  have e : ((2 : Int) ^ x) = ((2 ^ x : Nat) : Int) := by push_cast; rfl
  rw [e]
  generalize (2 : Nat) ^ x = A at h
  exact ⟨IntWalk.i64_in _ (by omega), h⟩
/-- The circuit of two edges that cross. -/
def isX (x : Int × Int × Int × Int) : Bool := x.1 == 1 && (x.2.1 == 1 && (x.2.2.1 == -1 && x.2.2.2 == -1))
theorem isX_zero {v0 v1 v2 v3 : Int} (h : v0 = 0 ∨ v1 = 0 ∨ v2 = 0 ∨ v3 = 0) : isX (v0 * v0, -v1 * v0, v2 * v0, -v3 * v0) = false := by
  unfold isX
  dsimp only
  rcases h with rfl | rfl | rfl | rfl
  · simp
  · simp
  · simp
  · simp
theorem isX_bits : ∀ w x y z : Bool, isX (cv4 (sg1 w) (sg1 x) (sg1 y) (sg1 z)) = ((x == !w) && (!(y == w) && !(z == !w))) := by decide
section
variable {n : Nat} {s : List UInt8}
theorem isX_cr (h : aciB n s = true) {a b c d : Nat} (hd : Dis n a b c d) : isX (cir (sgnF (lookS n s)) a b c d) = crA (sgnF (lookS n s)) a b c d := by
  have h7 := (aciB_n h).2
  have hd0 := hd
  unfold Dis at hd
  obtain ⟨w, x, y, z, e0, e1, e2, e3, -⟩ := in_bits h hd0
  unfold sgS at e0 e1 e2 e3
  have key := crI_all
  simp only [List.all_eq_true, List.mem_range] at key
  have k := key a (by omega) b (by omega) c (by omega) d (by omega) (x == !w) (by cases x <;> cases w <;> simp) (y == w) (by cases y <;> cases w <;> simp) (z == !w) (by cases z <;> cases w <;> simp)
  unfold crI at k
  have hc : cir (sgnF (lookS n s)) a b c d = cv4 (sg1 w) (sg1 x) (sg1 y) (sg1 z) := cir_of e0 e1 e2 e3
  unfold crA
  rw [hc, isX_bits, cv4_bools]
  have hne : (a == b || a == c || a == d || b == c || b == d || c == d) = false := by simp; omega
  rw [hne, Bool.false_or, beq_iff_eq] at k
  rw [k]
theorem isX_out (h : arB n s = true) {a b c d : Int} (hd : difB n [a, b, c, d] = false) : isX (cir (sgnF (lookS n s)) a b c d) = false := by
  cases hx : isX (cir (sgnF (lookS n s)) a b c d)
  · rfl
  · exfalso
    have hz : ¬ (sgnF (lookS n s) b c d = 0 ∨ sgnF (lookS n s) a c d = 0 ∨ sgnF (lookS n s) a b d = 0 ∨ sgnF (lookS n s) a b c = 0) := fun e => by
      have := isX_zero e
      have e2 : cir (sgnF (lookS n s)) a b c d = (sgnF (lookS n s) b c d * sgnF (lookS n s) b c d, -sgnF (lookS n s) a c d * sgnF (lookS n s) b c d, sgnF (lookS n s) a b d * sgnF (lookS n s) b c d, -sgnF (lookS n s) a b c * sgnF (lookS n s) b c d) := rfl
      rw [e2, this] at hx
      cases hx
    have k : ∀ i j k : Int, sgnF (lookS n s) i j k ≠ 0 → (0 ≤ i ∧ i < n) ∧ (0 ≤ j ∧ j < n) ∧ (0 ≤ k ∧ k < n) ∧ i ≠ j ∧ j ≠ k ∧ i ≠ k := fun i j k hne => Classical.byContradiction fun hb => hne (sgnF_bad h hb)
    have k1 := k b c d (fun e => hz (.inl e))
    have k2 := k a c d (fun e => hz (.inr (.inl e)))
    have k3 := k a b d (fun e => hz (.inr (.inr (.inl e))))
    have : difB n [a, b, c, d] = true := difB4.2 (by omega)
    rw [this] at hd
    cases hd
end
/-- The circuit tells what DoCross answers. -/
theorem isX_dc (n : Int) (s : List UInt8) (a b c d : Int) : isX (cir (sgnF (ordF n s)) a b c d) = dcB n s a b c d := by
  cases h : aciB n s
  · have e : cir (sgnF (ordF n s)) a b c d = (0 * 0, -0 * 0, 0 * 0, -0 * 0) := cir_of (sgnO_no h _ _ _) (sgnO_no h _ _ _) (sgnO_no h _ _ _) (sgnO_no h _ _ _)
    unfold dcB
    rw [e, h, isX_zero (.inl rfl)]
    rfl
  · obtain ⟨h3, h7⟩ := aciB_n h
    obtain ⟨m, rfl⟩ : ∃ m : Nat, n = m := ⟨n.toNat, by omega⟩
    rw [ordF_yes h]
    unfold dcB
    rw [h, Bool.true_and]
    cases hd : difB m [a, b, c, d]
    · rw [isX_out (matB_ar (aciB_mat h)) hd]; rfl
    · obtain ⟨g1, g2, g3, g4, n1, n2, n3, n4, n5, n6⟩ := difB4.1 hd
      obtain ⟨a, rfl⟩ : ∃ m : Nat, a = m := ⟨a.toNat, by omega⟩
      obtain ⟨b, rfl⟩ : ∃ m : Nat, b = m := ⟨b.toNat, by omega⟩
      obtain ⟨c, rfl⟩ : ∃ m : Nat, c = m := ⟨c.toNat, by omega⟩
      obtain ⟨d, rfl⟩ : ∃ m : Nat, d = m := ⟨d.toNat, by omega⟩
      rw [isX_cr h (by unfold Dis; omega)]
      simp only [Int.toNat_natCast, Bool.true_and]
      unfold crsF
      rw [beq_false_of_ne (show a ≠ c by omega), beq_false_of_ne (show a ≠ d by omega), beq_false_of_ne (show b ≠ c by omega), beq_false_of_ne (show b ≠ d by omega)]
      rfl
/-- Of two edges: do they cross, by the circuit? -/
def crX (F : Int → Int → Int → Int) (n : Nat) (p : Nat × Nat) : Bool := isX (cir F ((edL n p.1).1 : Nat) ((edL n p.1).2 : Nat) ((edL n p.2).1 : Nat) ((edL n p.2).2 : Nat))
def crE (F : Int → Int → Int → Int) (n : Nat) (p : Nat × Nat) : Bool := crsF F (edL n p.1).1 (edL n p.1).2 (edL n p.2).1 (edL n p.2).2
section
variable {n : Nat} {s : List UInt8}
theorem crX_crE (h : aciB n s = true) {p : Nat × Nat} (h1 : p.1 < eN n) (h2 : p.2 < eN n) : crX (sgnF (lookS n s)) n p = crE (sgnF (lookS n s)) n p := by
  have h7 := (aciB_n h).2
  obtain ⟨a1, a2⟩ := edL_lt (n := n) (by omega) h1
  obtain ⟨b1, b2⟩ := edL_lt (n := n) (by omega) h2
  unfold crX crE
  generalize edL n p.1 = u at *
  generalize edL n p.2 = v at *
  obtain ⟨a, b⟩ := u
  obtain ⟨c, d⟩ := v
  dsimp only at *
  cases hd : difB n [(a : Int), (b : Int), (c : Int), (d : Int)]
  · rw [isX_out (matB_ar (aciB_mat h)) hd]
    refine (crs_same ?_).symm
    refine Classical.byContradiction fun hn => ?_
    have : difB n [(a : Int), (b : Int), (c : Int), (d : Int)] = true := difB4.2 (by omega)
    rw [this] at hd
    cases hd
  · obtain ⟨g1, g2, g3, g4, n1, n2, n3, n4, n5, n6⟩ := difB4.1 hd
    rw [isX_cr h (by unfold Dis; omega)]
    unfold crsF
    rw [beq_false_of_ne (show a ≠ c by omega), beq_false_of_ne (show a ≠ d by omega), beq_false_of_ne (show b ≠ c by omega), beq_false_of_ne (show b ≠ d by omega)]
    rfl
theorem crE_sym (h : aciB n s = true) {x y : Nat} (h1 : x < eN n) (h2 : y < eN n) : crE (sgnF (lookS n s)) n (y, x) = crE (sgnF (lookS n s)) n (x, y) := by
  have h7 := (aciB_n h).2
  obtain ⟨a1, a2⟩ := edL_lt (n := n) (by omega) h1
  obtain ⟨b1, b2⟩ := edL_lt (n := n) (by omega) h2
  unfold crE
  dsimp only
  generalize edL n x = u at *
  generalize edL n y = v at *
  obtain ⟨a, b⟩ := u
  obtain ⟨c, d⟩ := v
  dsimp only at *
  by_cases hs : a = c ∨ a = d ∨ b = c ∨ b = d
  · rw [crs_same hs, crs_same (by omega)]
  · unfold crsF
    rw [beq_false_of_ne (show a ≠ c by omega), beq_false_of_ne (show a ≠ d by omega), beq_false_of_ne (show b ≠ c by omega), beq_false_of_ne (show b ≠ d by omega), beq_false_of_ne (show c ≠ a by omega), beq_false_of_ne (show c ≠ b by omega), beq_false_of_ne (show d ≠ a by omega), beq_false_of_ne (show d ≠ b by omega), crA_rot h (by unfold Dis; omega)]
theorem crE_same (F : Int → Int → Int → Int) (n x : Nat) : crE F n (x, x) = false := crs_same (.inl rfl)
end
/-- The set of the two edges of a pair of numbers; the pairs ahead of (x, y); the sets of those that cross. -/
def codeE (p : Nat × Nat) : Nat := 2 ^ p.1 ||| 2 ^ p.2
def idxA (x y : Nat) : List (Nat × Nat) := ((List.range x).flatMap fun x => (List.range x).map fun y => (x, y)) ++ (List.range y).map fun y => (x, y)
def cxL (q : Nat × Nat → Bool) (L : List (Nat × Nat)) : List Nat := (L.filter q).map codeE
theorem idxA_y (x y : Nat) : idxA x (y + 1) = idxA x y ++ [(x, y)] := by
  unfold idxA
  rw [List.range_succ, List.map_append, List.append_assoc]
  rfl
theorem idxA_x (x : Nat) : idxA (x + 1) 0 = idxA x x := by
  unfold idxA
  rw [List.range_succ, List.flatMap_append]
  simp
theorem idxA_0 : idxA 0 0 = [] := rfl
theorem idxA_all (n : Nat) : idxA (eN n) 0 = idxs n := by
  unfold idxA idxs
  simp
theorem idxA_len : ∀ x, x ≤ 21 → (idxA x 0).length ≤ 21 * x
  | 0, _ => by rw [idxA_0]; simp
  | x + 1, h => by
    have ih := idxA_len x (by omega)
    rw [idxA_x]
    have e : (idxA x x).length = (idxA x 0).length + x := by unfold idxA; simp
    omega
theorem idxA_le {x y : Nat} (hx : x ≤ 21) (hy : y ≤ x) : (idxA x y).length ≤ 462 := by
  have := idxA_len x hx
  have e : (idxA x y).length = (idxA x 0).length + y := by unfold idxA; simp
  omega
theorem cxL_snoc (q : Nat × Nat → Bool) (L : List (Nat × Nat)) (p : Nat × Nat) : cxL q (L ++ [p]) = cxL q L ++ (if q p = true then [codeE p] else []) := by
  unfold cxL
  rw [List.filter_append, List.map_append]
  cases h : q p <;> simp [h]
theorem cxL_len (q : Nat × Nat → Bool) {x y : Nat} (hx : x ≤ 21) (hy : y ≤ x) : (cxL q (idxA x y)).length ≤ 462 := by
  unfold cxL
  rw [List.length_map]
  exact Nat.le_trans (List.length_filter_le _ _) (idxA_le hx hy)
theorem mem_idxs {n : Nat} {p : Nat × Nat} : p ∈ idxs n ↔ p.2 < p.1 ∧ p.1 < eN n := by
  obtain ⟨x, y⟩ := p
  unfold idxs
  rw [List.mem_flatMap]
  constructor
  · rintro ⟨a, ha, hm⟩
    obtain ⟨b, hb, he⟩ := List.mem_map.1 hm
    obtain ⟨rfl, rfl⟩ := Prod.mk.inj he
    exact ⟨List.mem_range.1 hb, List.mem_range.1 ha⟩
  · rintro ⟨h1, h2⟩
    exact ⟨x, List.mem_range.2 h2, List.mem_map.2 ⟨y, List.mem_range.2 h1, rfl⟩⟩
theorem cxL_congr {q r : Nat × Nat → Bool} {L : List (Nat × Nat)} (h : ∀ p ∈ L, q p = r p) : cxL q L = cxL r L := by
  unfold cxL
  rw [List.filter_congr h]
theorem codeE_lt {p : Nat × Nat} (h1 : p.1 < 21) (h2 : p.2 < 21) : codeE p < 2097152 := Nat.or_lt_two_pow (n := 21) (Nat.pow_lt_pow_right (by omega) h1) (Nat.pow_lt_pow_right (by omega) h2)
theorem codeE_bit (p : Nat × Nat) (i : Nat) : (codeE p).testBit i = (decide (p.1 = i) || decide (p.2 = i)) := by
  unfold codeE
  rw [Nat.testBit_or, Nat.testBit_two_pow, Nat.testBit_two_pow]
theorem codeE_sub (S : Nat) (p : Nat × Nat) : (S &&& codeE p == codeE p) = (S.testBit p.1 && S.testBit p.2) := by
  rw [Bool.eq_iff_iff, beq_iff_eq, Bool.and_eq_true]
  constructor
  · intro h
    have k : ∀ i, (codeE p).testBit i = true → S.testBit i = true := fun i hi => by
      have := congrArg (fun x => x.testBit i) h
      simp only [Nat.testBit_and, hi, Bool.and_true] at this
      exact this
    exact ⟨k _ (by rw [codeE_bit]; simp), k _ (by rw [codeE_bit]; simp)⟩
  · rintro ⟨h1, h2⟩
    refine Nat.eq_of_testBit_eq fun i => ?_
    rw [Nat.testBit_and, codeE_bit]
    by_cases e1 : p.1 = i
    · subst e1; rw [h1]; simp
    · by_cases e2 : p.2 = i
      · subst e2; rw [h2]; simp
      · simp [e1, e2]
/-- All sets of crossing edges are small. -/
theorem cxL_small (q : Nat × Nat → Bool) {n : Nat} (h7 : n ≤ 7) : ∀ c ∈ cxL q (idxs n), c < 2097152 := fun c hc => by
  obtain ⟨p, hp, rfl⟩ := List.mem_map.1 hc
  have := mem_idxs.1 (List.mem_filter.1 hp).1
  have := eN_bd n (by omega)
  exact codeE_lt (by omega) (by omega)
/-- How many of them lie within a set. -/
theorem cxL_count (F : Int → Int → Int → Int) (n S : Nat) : (cxL (crE F n) (idxs n)).countP (fun c => S &&& c == c) = prN F n S := by
  unfold cxL prN
  rw [List.countP_map, List.countP_filter]
  refine List.countP_congr fun p _ => ?_
  show ((S &&& codeE p == codeE p) && crE F n p) = true ↔ crP F n S p = true
  rw [codeE_sub]
  rfl
theorem cnt_snoc (q : Nat → Bool) (L : List Nat) (c : Nat) : (L ++ [c]).countP q = L.countP q + bit (q c) := by
  rw [List.countP_append, List.countP_singleton]
  cases q c <;> rfl
theorem take_snoc {L : List Nat} {p : Nat} (h : p < L.length) : L.take (p + 1) = L.take p ++ [L.getD p 0] := by
  rw [List.take_add_one, List.getD_eq_getElem?_getD, List.getElem?_eq_getElem h]
  rfl
/-- What is left of a set without these. -/
def frW (A : Nat) (L : List Nat) : Nat := L.foldl (fun a c => a ^^^ (a &&& c)) A
theorem frW_snoc (A : Nat) (L : List Nat) (c : Nat) : frW A (L ++ [c]) = frW A L ^^^ (frW A L &&& c) := by unfold frW; rw [List.foldl_append]; rfl
theorem frW_bit (i : Nat) : ∀ (L : List Nat) (A : Nat), (frW A L).testBit i = (A.testBit i && L.all fun c => !c.testBit i)
  | [], A => by show A.testBit i = _; simp
  | c :: L, A => by
    have ih := frW_bit i L (A ^^^ (A &&& c))
    show (frW (A ^^^ (A &&& c)) L).testBit i = _
    rw [ih, List.all_cons, Nat.testBit_xor, Nat.testBit_and]
    cases A.testBit i <;> cases c.testBit i <;> rfl
section
variable {n : Nat} {s : List UInt8}
theorem pairsU_ed {p : Nat × Nat} (h7 : n ≤ 7) (h : p ∈ pairsU n) : ∃ k, k < eN n ∧ edL n k = p := by
  obtain ⟨k, hk, e⟩ := List.getElem_of_mem h
  refine ⟨k, by rw [← eN_len n (by omega)]; exact hk, ?_⟩
  unfold edL
  rw [List.getD_eq_getElem?_getD, List.getElem?_eq_getElem hk]
  exact e
/-- The free edges, as impl finds them. -/
theorem free_fold (h : aciB n s = true) : frW (2 ^ eN n - 1) (cxL (crE (sgnF (lookS n s)) n) (idxs n)) = freeE (sgnF (lookS n s)) n := by
  have h7 := (aciB_n h).2
  refine Nat.eq_of_testBit_eq fun i => ?_
  unfold freeE
  rw [frW_bit, setN_bit, Nat.testBit_two_pow_sub_one]
  by_cases hi : i < eN n
  · rw [decide_eq_true hi, Bool.true_and, Bool.true_and, Bool.eq_iff_iff, List.all_eq_true]
    unfold fB frB
    rw [List.all_eq_true]
    constructor
    · intro hall p hp
      obtain ⟨k, hk, rfl⟩ := pairsU_ed (by omega) hp
      rw [Bool.not_eq_true', ← Bool.not_eq_true]
      intro hc
      have hc : crE (sgnF (lookS n s)) n (i, k) = true := hc
      rcases Nat.lt_trichotomy k i with hl | rfl | hl
      · have := hall (codeE (i, k)) (List.mem_map.2 ⟨_, List.mem_filter.2 ⟨mem_idxs.2 ⟨hl, hi⟩, hc⟩, rfl⟩)
        rw [codeE_bit] at this
        simp at this
      · rw [crE_same] at hc
        cases hc
      · rw [crE_sym h hk hi] at hc
        have := hall (codeE (k, i)) (List.mem_map.2 ⟨_, List.mem_filter.2 ⟨mem_idxs.2 ⟨hl, hk⟩, hc⟩, rfl⟩)
        rw [codeE_bit] at this
        simp at this
    · intro hall c hc
      obtain ⟨⟨x, y⟩, hp, rfl⟩ := List.mem_map.1 hc
      obtain ⟨hm, hq⟩ := List.mem_filter.1 hp
      obtain ⟨m1, m2⟩ := mem_idxs.1 hm
      dsimp only at m1 m2
      rw [codeE_bit, Bool.not_eq_true', Bool.or_eq_false_iff, decide_eq_false_iff_not, decide_eq_false_iff_not]
      constructor
      · rintro rfl
        have := hall _ (edL_mem (n := n) (k := y) (by omega) (by omega))
        have hq : crsF (sgnF (lookS n s)) (edL n x).1 (edL n x).2 (edL n y).1 (edL n y).2 = true := hq
        rw [hq] at this
        cases this
      · rintro rfl
        have := hall _ (edL_mem (n := n) (k := x) (by omega) (by omega))
        have hq := (crE_sym h (x := y) (y := x) (by omega) m2).symm.trans hq
        have hq : crsF (sgnF (lookS n s)) (edL n y).1 (edL n y).2 (edL n x).1 (edL n x).2 = true := hq
        rw [hq] at this
        cases this
  · rw [decide_eq_false hi]; rfl
end
theorem setN_or {q : Nat → Bool} {k : Nat} (h : q k = true) : setN q (k + 1) = setN q k ||| 2 ^ k := by
  have e := Nat.two_pow_add_eq_or_of_lt (setN_lt q k) 1
  rw [Nat.mul_one] at e
  rw [setN, if_pos h, Nat.add_comm, e, Nat.or_comm]
theorem setN_no {q : Nat → Bool} {k : Nat} (h : q k = false) : setN q (k + 1) = setN q k := by
  rw [setN, if_neg (by rw [h]; simp), Nat.add_zero]
/-- An edge's number, as impl reckons it. -/
theorem ofs_half0 : ((List.range 8).all fun n => (List.range n).all fun a => decide (a * (2 * n - 1 - a) / 2 = ofs n a) && decide (a * (2 * n - 1 - a) ≤ 42)) = true := by decide +kernel
theorem ofs_half {n a : Nat} (h7 : n ≤ 7) (ha : a < n) : a * (2 * n - 1 - a) / 2 = ofs n a ∧ a * (2 * n - 1 - a) ≤ 42 := by
  have h := List.all_eq_true.1 (List.all_eq_true.1 ofs_half0 n (List.mem_range.2 (by omega))) a (List.mem_range.2 ha)
  rw [Bool.and_eq_true, decide_eq_true_eq, decide_eq_true_eq] at h
  exact h
end Go.Proofs.Ytpjjohbahhaeoaa.Sg
/- Edges and their numbers, as impl tells them: AllEdges, EdgeIndex, EdgeAt. -/
namespace Go.Proofs.Ytpjjohbahhaeoaa.Sg
open Go.RowKit Pt NewI
theorem allZ_out {n : Int} (h : ¬ (3 ≤ n ∧ n ≤ 7)) : allZ n = 0 := by
  unfold allZ
  rw [if_neg]
  intro e
  exact h (inB_mem e)
theorem allZ_small (n : Int) : ∃ K : Nat, allZ n = K ∧ K < 2097152 := by
  unfold allZ
  split
  · rename_i h
    obtain ⟨h3, h7⟩ := inB_mem h
    have h0 := Nat.pow_le_pow_right (n := 2) (by omega) (eN_bd n.toNat (by omega))
    exact ⟨_, rfl, by omega⟩
  · exact ⟨0, rfl, by omega⟩
set_option maxHeartbeats 800000 in
set_option maxRecDepth 100000 in
theorem allE_any (n : Int) (w : World) :
    Calls Try.prog 16 #[.int .i64 n] w fun e w' => e = .returned (.int .i64 (allZ n)) ∧ w = w' := by
  by_cases h1 : n < 3
  · have HE : Hid (allZ n = 0) := Lib.hid (allZ_out (by omega))
    go_enter Try.func16, Try.ntmps16
    go_wp2
    go_ret
    exact ⟨ret_int HE.out.symm, rfl⟩
  · by_cases h2 : 7 < n
    · have HE : Hid (allZ n = 0) := Lib.hid (allZ_out (by omega))
      go_enter Try.func16, Try.ntmps16
      go_wp2
      go_ret
      exact ⟨ret_int HE.out.symm, rfl⟩
    · rcases (by omega : n = 3 ∨ n = 4 ∨ n = 5 ∨ n = 6 ∨ n = 7) with rfl | rfl | rfl | rfl | rfl
      all_goals
        go_enter Try.func16, Try.ntmps16
        go_wp2
        go_ret
        exact ⟨ret_int (by decide +kernel), rfl⟩
theorem implAllEdges (n : Int) (w : World) :
    Calls Try.prog 16 #[.int .i64 n] w fun e w' => e = .returned (.int .i64 (allZ n)) ∧ Below w.heap.size w w' :=
  (allE_any n w).mono fun _ _ ⟨h, e⟩ => ⟨h, by subst e; exact Below.refl _ _⟩
theorem idxZ_out {n i j : Int} (h : ¬ ((3 ≤ n ∧ n ≤ 7) ∧ (0 ≤ i ∧ i < n) ∧ (0 ≤ j ∧ j < n) ∧ i ≠ j)) : idxZ n i j = -1 := by
  unfold idxZ
  rw [if_neg]
  rintro ⟨e1, e2⟩
  exact h ⟨inB_mem e1, difB2_iff.1 e2⟩
theorem idxZ_swap (n i j : Int) : idxZ n i j = idxZ n j i := by
  unfold idxZ
  have e : difB n [i, j] = difB n [j, i] := by
    rw [Bool.eq_iff_iff, difB2_iff, difB2_iff]
    exact ⟨fun ⟨a, b, c⟩ => ⟨b, a, fun e => c e.symm⟩, fun ⟨a, b, c⟩ => ⟨b, a, fun e => c e.symm⟩⟩
  rw [e, ix_swap]
theorem idxZ_in {n i j : Nat} (h3 : 3 ≤ n) (h7 : n ≤ 7) (h : i < j) (hj : j < n) : ∃ h : Nat, (i : Int) * (2 * n - 1 - i) = ((h : Nat) : Int) ∧ h ≤ 42 ∧ idxZ n i j = ((h / 2 + j - i - 1 : Nat) : Int) := by
  obtain ⟨h1, h2⟩ := ofs_half h7 (show i < n by omega)
  refine ⟨i * (2 * n - 1 - i), ?_, h2, ?_⟩
  · rw [Int.natCast_mul, show ((2 * n - 1 - i : Nat) : Int) = 2 * (n : Int) - 1 - i by omega]
  · unfold idxZ
    rw [if_pos ⟨inB_yes (by omega) (by omega), difB2_iff.2 ⟨⟨by omega, by omega⟩, ⟨by omega, by omega⟩, by omega⟩⟩, Int.toNat_natCast, Int.toNat_natCast, Int.toNat_natCast, ix_lt h, h1]
    omega
set_option maxHeartbeats 1600000 in
set_option maxRecDepth 100000 in
/-- EdgeIndex of a lesser and a greater number, either way round. -/
theorem edgeIx_any (n p q : Int) (hpq : p ≤ q) (hn : I64 n) (hp : I64 p) (hq : I64 q) (i j : Int) (hij : (i = p ∧ j = q) ∨ (i = q ∧ j = p)) (w : World) :
    Calls Try.prog 8 #[.int .i64 n, .int .i64 i, .int .i64 j] w fun e w' => e = .returned (.int .i64 (idxZ n p q)) ∧ w = w' := by
  have hmin : min i j = p := by omega
  have hmax : max i j = q := by omega
  obtain ⟨K, hK, hKb⟩ := allZ_small n
  have HA := Lib.hid (fun W => allE_any n W)
  by_cases hn3 : 3 ≤ n ∧ n ≤ 7
  · have hK0 : K ≠ 0 := by
      unfold allZ at hK
      rw [if_pos (inB_yes hn3.1 hn3.2)] at hK
      have := Nat.pow_le_pow_right (n := 2) (by omega) (show 1 ≤ eN n.toNat by
        rcases (by omega : n = 3 ∨ n = 4 ∨ n = 5 ∨ n = 6 ∨ n = 7) with rfl | rfl | rfl | rfl | rfl <;> decide)
      omega
    have hKz : ((K : Int) == 0) = false := by simp; omega
    rw [hK] at HA
    clear hK
    by_cases h1 : p < 0
    · have HE := Lib.hid (idxZ_out (n := n) (i := p) (j := q) (by omega))
      rw [HE.out]
      clear hn3 HE
      go_enter Try.func8, Try.ntmps8
      go_wp2_with fail
      refine (HA.out _).mono ?_
      rintro e w' ⟨rfl, rfl⟩
      go_wp2
      go_ret
      exact ⟨rfl, rfl⟩
    · by_cases h2 : n ≤ q
      · have HE := Lib.hid (idxZ_out (n := n) (i := p) (j := q) (by omega))
        rw [HE.out]
        clear hn3 HE
        go_enter Try.func8, Try.ntmps8
        go_wp2_with fail
        refine (HA.out _).mono ?_
        rintro e w' ⟨rfl, rfl⟩
        go_wp2
        go_ret
        exact ⟨rfl, rfl⟩
      · by_cases h3 : p = q
        · have HE := Lib.hid (idxZ_out (n := n) (i := p) (j := q) (by omega))
          rw [HE.out]
          have hpqb : (p == q) = true := by simpa using h3
          clear hn3 HE h3
          go_enter Try.func8, Try.ntmps8
          go_wp2_with fail
          refine (HA.out _).mono ?_
          rintro e w' ⟨rfl, rfl⟩
          go_wp2
          go_ret
          exact ⟨rfl, rfl⟩
        · obtain ⟨n, rfl⟩ : ∃ m : Nat, n = m := ⟨n.toNat, by omega⟩
          obtain ⟨p, rfl⟩ : ∃ m : Nat, p = m := ⟨p.toNat, by omega⟩
          obtain ⟨q, rfl⟩ : ∃ m : Nat, q = m := ⟨q.toNat, by omega⟩
          obtain ⟨h, e1, e2, e3⟩ := idxZ_in (n := n) (i := p) (j := q) (by omega) (by omega) (by omega) (by omega)
          have hpqb : ((p : Int) == (q : Int)) = false := by simp; omega
          have hlt : p < q := by omega
          have hw : IntKind.i64.wrap ((p : Int) * (2 * (n : Int) - 1 - p)) = ((h : Nat) : Int) := by rw [e1]; exact IntWalk.i64_in _ (by omega)
          rw [e3]
          clear e1 e3 h3
          go_enter Try.func8, Try.ntmps8
          go_wp2_with fail
          refine (HA.out _).mono ?_
          rintro e w' ⟨rfl, rfl⟩
          go_wp2
          go_ret
          exact ⟨ret_int (by omega), rfl⟩
  · have HE := Lib.hid (idxZ_out (n := n) (i := p) (j := q) (by omega))
    rw [HE.out]
    have h0 := allZ_out hn3
    rw [h0] at HA
    clear hn3 HE h0 hK
    go_enter Try.func8, Try.ntmps8
    go_wp2_with fail
    refine (HA.out _).mono ?_
    rintro e w' ⟨rfl, rfl⟩
    go_wp2
    go_ret
    exact ⟨rfl, rfl⟩
theorem implEdgeIndex (n i j : Int) (hn : I64 n) (hi : I64 i) (hj : I64 j) (w : World) :
    Calls Try.prog 8 #[.int .i64 n, .int .i64 i, .int .i64 j] w fun e w' => e = .returned (.int .i64 (idxZ n i j)) ∧ Below w.heap.size w w' := by
  rcases Int.le_total i j with h | h
  · exact (edgeIx_any n i j h hn hi hj i j (.inl ⟨rfl, rfl⟩) w).mono fun _ _ ⟨h, e⟩ => ⟨h, by subst e; exact Below.refl _ _⟩
  · rw [idxZ_swap]
    exact (edgeIx_any n j i h hn hj hi i j (.inr ⟨rfl, rfl⟩) w).mono fun _ _ ⟨h, e⟩ => ⟨h, by subst e; exact Below.refl _ _⟩
theorem edZ_no {n k : Int} (h : ¬ ((3 ≤ n ∧ n ≤ 7) ∧ 0 ≤ k ∧ k < (eN n.toNat : Nat))) : edZ n k = (-1, -1) := by
  unfold edZ
  rw [if_neg]
  rintro ⟨e1, e2⟩
  exact h ⟨inB_mem e1, e2⟩
theorem allZ_bit (n : Int) (k : Nat) (K : Nat) (hK : allZ n = K) : K.testBit k = decide ((3 ≤ n ∧ n ≤ 7) ∧ k < eN n.toNat) := by
  by_cases h : 3 ≤ n ∧ n ≤ 7
  · unfold allZ at hK
    rw [if_pos (inB_yes h.1 h.2)] at hK
    have hK : K = 2 ^ eN n.toNat - 1 := by omega
    rw [hK, Nat.testBit_two_pow_sub_one]
    simp [h]
  · rw [allZ_out h] at hK
    have : K = 0 := by omega
    subst this
    simp [h]
set_option maxHeartbeats 1600000 in
set_option maxRecDepth 100000 in
theorem edgeAt_any (n k : Int) (hk : I64 k) (w : World) :
    Calls Try.prog 10 #[.int .i64 n, .int .i64 k] w fun e w' => e = .returned (.tuple #[.int .i64 (edZ n k).1, .int .i64 (edZ n k).2]) ∧ w = w' := by
  by_cases h0 : k < 0
  · have HE := Lib.hid (edZ_no (n := n) (k := k) (by omega))
    rw [HE.out]
    clear HE
    go_enter Try.func10, Try.ntmps10
    go_wp2
    go_ret2
    exact ⟨rfl, rfl⟩
  · obtain ⟨k, rfl⟩ : ∃ m : Nat, k = m := ⟨k.toNat, by omega⟩
    obtain ⟨K, hK, hKb⟩ := allZ_small n
    have HA := Lib.hid (fun W => allE_any n W)
    have hbit := allZ_bit n k K hK
    rw [hK] at HA
    by_cases hin : (3 ≤ n ∧ n ≤ 7) ∧ k < eN n.toNat
    · obtain ⟨hn3, hke⟩ := hin
      obtain ⟨n, rfl⟩ : ∃ m : Nat, n = m := ⟨n.toNat, by omega⟩
      have hke : k < eN n := hke
      have hE := eN_bd n (by omega)
      have hk64 : k < 64 := by have := hke; have := hE; omega
      have hmk : min k 64 = k := by omega
      have hb : bits BinOp.and IntKind.i64 ((K : Int) / 2 ^ k) 1 = 1 := by
        have hd : decide ((3 ≤ (n : Int) ∧ (n : Int) ≤ 7) ∧ k < eN (n : Int).toNat) = true := decide_eq_true ⟨hn3, hke⟩
        rw [has_bits2 K k (by omega), hbit, hd]
        rfl
      have HHIT := Lib.hid (fun (i j : Nat) (hij : i < j) (hj : j < n) => edZ_hit (k := (k : Int)) (inB_yes hn3.1 hn3.2) hij hj)
      have HX := Lib.hid (fun (i j : Nat) (hij : i < j) => ix_lt (n := n) hij)
      have HST := Lib.hid (fun a (h : a < n) => ofs_step h)
      have HOF := Lib.hid (ofs_all n (by omega))
      have H0 : Hid (ofs n 0 = 0) := Lib.hid rfl
      have HKE := Lib.hid hke
      have hk21 : k ≤ 21 := by have := hke; have := hE; omega
      generalize edZ n k = r at HHIT ⊢
      obtain ⟨r1, r2⟩ := r
      generalize ofs n = p at HX HST H0 HOF
      generalize ixN n = x at HHIT HX
      clear hbit hK hke
      go_enter Try.func10, Try.ntmps10
      go_wp2_with fail
      refine (HA.out _).mono ?_
      rintro e w' ⟨rfl, rfl⟩
      go_wp2
      go_loopw [1, 6] (fun kv av wr => ∃ a t : Nat, a < n ∧ t ≤ 21 ∧ kv = .int .i64 t ∧ av = .int .i64 a ∧ Hid (p a + t = k) ∧ wr = w) (fun _ av _ => n - (intOf av).toNat)
      case atStart => exact ⟨0, k, by omega, by omega, rfl, rfl, Lib.hid (by have := H0.out; omega), rfl⟩
      case round =>
        obtain ⟨a, t, han, ht, rfl, rfl, HP, rfl⟩ := hrel
        by_cases hlt : n ≤ t + a + 1
        · have hlast : a + 1 < n := by
            refine Classical.byContradiction fun hc => ?_
            obtain rfl : n = a + 1 := by omega
            have h1 := HST.out a (by omega)
            have := HOF.out
            have := HP.out
            have := HKE.out
            omega
          have HP2 : Hid (p (a + 1) + (t - (n - 1 - a)) = k) := Lib.hid (by have h1 := HST.out a han; have := HP.out; omega)
          go_wp2
          exact ⟨⟨a + 1, t - (n - 1 - a), by omega, by omega, by go_num, by go_num, HP2, by trivial⟩, by simp only [intOf]; omega⟩
        · have HR := Lib.hid (HHIT.out a (a + 1 + t) (by omega) (by omega) (by rw [HX.out a (a + 1 + t) (by omega)]; have := HP.out; omega))
          go_wp2
          go_ret2
          exact ⟨ret_two (by rw [HR.out]; simp), rfl⟩
    · have HE := Lib.hid (edZ_no (n := n) (k := (k : Int)) (by omega))
      rw [HE.out]
      have hf : K.testBit k = false := by rw [hbit]; exact decide_eq_false hin
      clear HE hbit hK hin
      obtain ⟨j, hj⟩ : ∃ j, min k 64 = j := ⟨_, rfl⟩
      have hb : bits BinOp.and IntKind.i64 ((K : Int) / 2 ^ j) 1 = 0 := by
        rw [has_bits2 K j (by omega)]
        have hfj : K.testBit j = false := by
          by_cases h64 : k < 64
          · obtain rfl : k = j := by omega
            exact hf
          · obtain rfl : j = 64 := by omega
            exact Nat.testBit_lt_two_pow (by omega)
        rw [hfj]
        rfl
      clear hf
      go_enter Try.func10, Try.ntmps10
      go_wp2_with fail
      refine (HA.out _).mono ?_
      rintro e w' ⟨rfl, rfl⟩
      go_wp2
      go_ret2
      exact ⟨rfl, rfl⟩
theorem implEdgeAt (n k : Int) (hk : I64 k) (w : World) :
    Calls Try.prog 10 #[.int .i64 n, .int .i64 k] w fun e w' => e = .returned (.tuple #[.int .i64 (edZ n k).1, .int .i64 (edZ n k).2]) ∧ Below w.heap.size w w' :=
  (edgeAt_any n k hk w).mono fun _ _ ⟨h, e⟩ => ⟨h, by subst e; exact Below.refl _ _⟩
end Go.Proofs.Ytpjjohbahhaeoaa.Sg
/- Edges that cross, as impl tells them: doCross, DoCross. -/
namespace Go.Proofs.Ytpjjohbahhaeoaa.Sg
open Go.RowKit Pt NewI
set_option maxRecDepth 100000 in
theorem eqlX (x0 x1 x2 x3 : Int) (b0 : -1 ≤ x0 ∧ x0 ≤ 1) (b1 : -1 ≤ x1 ∧ x1 ≤ 1) (b2 : -1 ≤ x2 ∧ x2 ≤ 1) (b3 : -1 ≤ x3 ∧ x3 ≤ 1) (W : World) :
    (binOp .eql 45 (.agg #[.int .i64 x0, .int .i64 x1, .int .i64 x2, .int .i64 x3]) (.agg #[.int .i64 1, .int .i64 1, .int .i64 (-1), .int .i64 (-1)])).run Try.prog W = .ok (.bool (x0 == 1 && (x1 == 1 && (x2 == -1 && x3 == -1)))) W := by
  rcases tri b0 with rfl | rfl | rfl <;> rcases tri b1 with rfl | rfl | rfl <;> rcases tri b2 with rfl | rfl | rfl <;> rcases tri b3 with rfl | rfl | rfl <;> kernel_rfl
set_option maxHeartbeats 800000 in
set_option maxRecDepth 100000 in
theorem doCross_any (B : Nat) (f : Int → Int → Int → Int) (a b c d : Int) (ha : I64 a) (hb : I64 b) (hc : I64 c) (hd : I64 d) (w : World) (hm : MapIs w B f) :
    Calls Try.prog 23 #[.map (some B), .int .i64 a, .int .i64 b, .int .i64 c, .int .i64 d] w fun e w' => e = .returned (.bool (isX (cir (sgnF f) a b c d))) ∧ Below w.heap.size w w' := by
  obtain ⟨c0, c1, c2, c3, hx⟩ : ∃ c0 c1 c2 c3, cir (sgnF f) a b c d = (c0, c1, c2, c3) := ⟨_, _, _, _, rfl⟩
  obtain ⟨b0, b1, b2, b3⟩ := cir_bd (sgnF_bd hm.2) hx
  have HC := Lib.hid (circuitOf_any B f a b c d ha hb hc hd w hm)
  rw [hx] at HC
  have hq := fun W => eqlX c0 c1 c2 c3 b0 b1 b2 b3 W
  have HE : Hid (isX (cir (sgnF f) a b c d) = (c0 == 1 && (c1 == 1 && (c2 == -1 && c3 == -1)))) := Lib.hid (by rw [hx]; rfl)
  generalize (c0 == 1 && (c1 == 1 && (c2 == -1 && c3 == -1))) = q at hq HE
  clear hx hm b0 b1 b2 b3 ha hb hc hd
  go_enter Try.func23, Try.ntmps23
  go_wp2_with fail
  refine HC.out.mono ?_
  rintro e w1 ⟨rfl, hb1⟩
  go_wp2
  go_ret
  exact ⟨ret_bool HE.out.symm, hb1⟩
set_option maxHeartbeats 800000 in
set_option maxRecDepth 100000 in
theorem implDoCross (n : Int) (s : ByteArray) (hs : s.size ≤ 9223372036854775807) (a b c d : Int) (ha : I64 a) (hb : I64 b) (hc : I64 c) (hd : I64 d) (w : World) :
    Calls Try.prog 14 #[sg n s, .int .i64 a, .int .i64 b, .int .i64 c, .int .i64 d] w fun e w' => e = .returned (.bool (dcB n s.data.toList a b c d)) ∧ Below w.heap.size w w' := by
  have HO := Lib.hid (fun W => implOrd n s hs W)
  have HI := Lib.hid (fun B W hm => doCross_any B (ordF n s.data.toList) a b c d ha hb hc hd W hm)
  rw [isX_dc] at HI
  have HS := Lib.hid (box_made w n s 31)
  clear ha hb hc hd
  go_enter Try.func14, Try.ntmps14
  go_wp2_with fail
  refine (HO.out _).mono ?_
  rintro e w1 ⟨B, rfl, hm, hb1⟩
  have B1 := Lib.hid (HS.out.on hb1).2.2
  have HM := Lib.hid hm.is
  clear hm hb1
  go_wp2_with fail
  refine (HI.out _ _ HM.out).mono ?_
  rintro e w2 ⟨rfl, hb2⟩
  have B2 := Lib.hid (B1.out.trans (hb2.mono B1.out.size))
  clear hb2
  go_wp2
  go_ret
  exact ⟨rfl, B2.out⟩
end Go.Proofs.Ytpjjohbahhaeoaa.Sg
