/- Several texts in one: FtCheck, FtMany, FtSets, FtMove, FtConn, FtSame, FtDeg. -/
import Derived.Test.YtinlnafkmoabbaaGreatDoorMgTa
import Derived.Test.YtinlnafkmoabbaaGreatDoorMgTb
/- Plane trees, paths, polygons and matchings of sorted signs: finite checks, n up to 6. Plain mathematics. -/
namespace Go.Proofs.YtinlnafkmoabbaaGreatDoor.Sg
/-- The plane sets of m of the first x edges, added to T, ascending as spec's l11Plane finds them. -/
def plT (c : Nat → Nat) : Nat → Nat → Nat → List Nat
  | 0, m, T => if (m == 0) = true then [T] else []
  | x + 1, m, T => if (m == 0) = true then [T] else if decide (x + 1 < m) = true then [] else plT c x m T ++ (if (c x &&& T == 0) = true then plT c x (m - 1) (T + 2 ^ x) else [])
/-- The edges of an element. -/
def incM (n i : Nat) : Nat := setN (fun k => (edL n k).1 == i || (edL n k).2 == i) (eN n)
/-- How many edges of a set an element has. -/
def dgN (n T i : Nat) : Nat := sizE (eN n) (T &&& incM n i)
/-- One pass of the search: what is reached with the edges k, k + 1, .. -/
def rchL (T : Nat) : List (Nat × Nat) → Nat → Nat → Nat
  | [], _, R => R
  | p :: l, k, R => rchL T l (k + 1) (if (T.testBit k && (R.testBit p.1 || R.testBit p.2)) = true then R ||| 2 ^ p.1 ||| 2 ^ p.2 else R)
def rchP (n T : Nat) : Nat → Nat
  | 0 => 1
  | k + 1 => rchL T (pairsU n) 0 (rchP n T k)
def conB (n T : Nat) : Bool := rchP n T n == 2 ^ n - 1
def fineB (n least most T : Nat) : Bool := (List.range n).all fun i => decide (least ≤ dgN n T i) && decide (dgN n T i ≤ most)
def treesL (c : Nat → Nat) (n : Nat) : List Nat := (plT c (eN n) (n - 1) 0).filter fun T => fineB n 1 6 T && conB n T
def pathsL (c : Nat → Nat) (n : Nat) : List Nat := (plT c (eN n) (n - 1) 0).filter fun T => fineB n 1 2 T && conB n T
def ringsL (c : Nat → Nat) (n : Nat) : List Nat := (plT c (eN n) n 0).filter fun T => fineB n 2 2 T && conB n T
/-- Sorted signs of which every element is extreme. -/
def convexG (n : Nat) : Nat → Nat → Nat → Int := gB (2 ^ ((n - 1) * (n - 2) * (n - 3) / 6) - 1)
def cnvC (n tr pa : Nat) : Bool := (treesL (crC (convexG n) n) n).length == tr && ((pathsL (crC (convexG n) n) n).length == pa && (ringsL (crC (convexG n) n) n).length == 1)
theorem cnv3 : (hulG (convexG 3) 3 == 3 && cnvC 3 3 3) = true := by decide +kernel
theorem cnv4 : (hulG (convexG 4) 4 == 4 && cnvC 4 12 8) = true := by decide +kernel
theorem cnv5 : (hulG (convexG 5) 5 == 5 && cnvC 5 55 20) = true := by decide +kernel
set_option maxRecDepth 100000 in
theorem cnv6 : (hulG (convexG 6) 6 == 6 && cnvC 6 273 48) = true := by decide +kernel
end Go.Proofs.YtinlnafkmoabbaaGreatDoor.Sg
/- At least n plane paths, a plane polygon, a plane matching of sorted signs: finite checks, n up to 6. Plain mathematics. -/
namespace Go.Proofs.YtinlnafkmoabbaaGreatDoor.Sg
def insE (a : Nat) : List Nat → List (List Nat)
  | [] => [[a]]
  | b :: l => (a :: b :: l) :: (insE a l).map (b :: ·)
def permL : List Nat → List (List Nat)
  | [] => [[]]
  | a :: l => (permL l).flatMap (insE a)
/-- The numbers of the edges between neighbours of a list. -/
def stepL (n : Nat) : List Nat → List Nat
  | a :: b :: l => ixO n (min a b) (max a b) :: stepL n (b :: l)
  | _ => []
def sumP (xs : List Nat) : Nat := xs.foldl (fun t x => t + 2 ^ x) 0
/-- The paths, polygons and matchings of n elements, each by the numbers of its edges. -/
def hamP (n : Nat) : List (List Nat) := ((permL (List.range n)).filter fun l => decide (l.headD 0 < l.getLastD 0)).map (stepL n)
def hamR (n : Nat) : List (List Nat) := ((permL ((List.range (n - 1)).map (· + 1))).filter fun l => decide (l.headD 0 < l.getLastD 0)).map fun l => stepL n (0 :: (l ++ [0]))
/-- Every other edge of a path. -/
def oddL : List Nat → List Nat
  | a :: _ :: l => a :: oddL l
  | l => l
def hamM (n : Nat) : List (List Nat) := (permL (List.range n)).map fun l => oddL (stepL n l)
/-- No two of these edges cross. -/
def plX (c : Nat → Nat) (xs : List Nat) : Bool := let T := sumP xs; xs.all fun x => c x &&& T == 0
def manyG (G : Nat → Nat → Nat → Int) (n : Nat) : Bool := decide (n ≤ (hamP n).countP (plX (crC G n))) && ((hamR n).any (plX (crC G n)) && (decide (n % 2 = 1) || (hamM n).any (plX (crC G n))))
theorem many3 : ((List.range 1).all fun b => !okG (gB b) 3 || manyG (gB b) 3) = true := by decide +kernel
theorem many4 : ((List.range 2).all fun b => !okG (gB b) 4 || manyG (gB b) 4) = true := by decide +kernel
theorem many5 : ((List.range 16).all fun b => !okG (gB b) 5 || manyG (gB b) 5) = true := by decide +kernel
set_option maxRecDepth 100000 in
theorem many6 : ((List.range 1024).all fun b => !okG (gB b) 6 || manyG (gB b) 6) = true := by decide +kernel
/-- What these lists are: sets of paths, polygons, matchings, no set twice among the paths. -/
def pathB (n : Nat) (xs : List Nat) : Bool := decide (sumP xs < 2 ^ eN n) && (sizE (eN n) (sumP xs) == n - 1 && (fineB n 1 2 (sumP xs) && conB n (sumP xs)))
def ringB (n : Nat) (xs : List Nat) : Bool := decide (sumP xs < 2 ^ eN n) && (sizE (eN n) (sumP xs) == n && (fineB n 2 2 (sumP xs) && conB n (sumP xs)))
def matchB (n : Nat) (xs : List Nat) : Bool := decide (sumP xs < 2 ^ eN n) && (sizE (eN n) (sumP xs) == n / 2 && fineB n 1 1 (sumP xs))
theorem ham3 : (nodB ((hamP 3).map sumP) && ((hamP 3).all (pathB 3) && (hamR 3).all (ringB 3))) = true := by decide +kernel
theorem ham4 : (nodB ((hamP 4).map sumP) && ((hamP 4).all (pathB 4) && ((hamR 4).all (ringB 4) && (hamM 4).all (matchB 4)))) = true := by decide +kernel
theorem ham5 : (nodB ((hamP 5).map sumP) && ((hamP 5).all (pathB 5) && (hamR 5).all (ringB 5))) = true := by decide +kernel
set_option maxRecDepth 100000 in
theorem ham6 : (nodB ((hamP 6).map sumP) && ((hamP 6).all (pathB 6) && ((hamR 6).all (ringB 6) && (hamM 6).all (matchB 6)))) = true := by decide +kernel
/-- Sorted signs of which all elements are extreme are the convex ones. -/
theorem only3 : ((List.range 1).all fun b => !(okG (gB b) 3 && hulG (gB b) 3 == 3) || b == 0) = true := by decide +kernel
theorem only4 : ((List.range 2).all fun b => !(okG (gB b) 4 && hulG (gB b) 4 == 4) || b == 1) = true := by decide +kernel
theorem only5 : ((List.range 16).all fun b => !(okG (gB b) 5 && hulG (gB b) 5 == 5) || b == 15) = true := by decide +kernel
set_option maxRecDepth 100000 in
theorem only6 : ((List.range 1024).all fun b => !(okG (gB b) 6 && hulG (gB b) 6 == 6) || b == 1023) = true := by decide +kernel
/-- The numbers are the set's. -/
def bitsX (n : Nat) (xs : List Nat) : Bool := (List.range (eN n)).all fun y => (sumP xs).testBit y == xs.contains y
theorem bits3 : ((hamP 3).all (bitsX 3) && (hamR 3).all (bitsX 3)) = true := by decide +kernel
theorem bits4 : ((hamP 4).all (bitsX 4) && ((hamR 4).all (bitsX 4) && (hamM 4).all (bitsX 4))) = true := by decide +kernel
theorem bits5 : ((hamP 5).all (bitsX 5) && (hamR 5).all (bitsX 5)) = true := by decide +kernel
set_option maxRecDepth 100000 in
theorem bits6 : ((hamP 6).all (bitsX 6) && ((hamR 6).all (bitsX 6) && (hamM 6).all (bitsX 6))) = true := by decide +kernel
end Go.Proofs.YtinlnafkmoabbaaGreatDoor.Sg
/- The plane sets of a number of edges: what l11Plane's list holds. Plain mathematics. -/
namespace Go.Proofs.YtinlnafkmoabbaaGreatDoor.Sg
theorem sizE_succ (x U : Nat) : sizE (x + 1) U = sizE x U + if U.testBit x = true then 1 else 0 := by
  unfold sizE
  rw [List.range_succ, List.countP_append, List.countP_singleton]
theorem sizE_le (U : Nat) : ∀ x, sizE x U ≤ x := fun x => by
  unfold sizE
  exact Nat.le_trans List.countP_le_length (by simp)
theorem sizE_zero {x U : Nat} : sizE x U = 0 ↔ ∀ y, y < x → U.testBit y = false := by
  unfold sizE
  rw [List.countP_eq_zero]
  constructor
  · intro h y hy
    have := h y (List.mem_range.2 hy)
    simpa using this
  · intro h y hy
    rw [h y (List.mem_range.1 hy)]
    simp
theorem and_zero_iff {a b : Nat} : (a &&& b == 0) = true ↔ ∀ z, b.testBit z = true → a.testBit z = false := by
  rw [beq_iff_eq]
  constructor
  · intro h z hz
    have e : (a &&& b).testBit z = false := by rw [h, Nat.zero_testBit]
    rw [Nat.testBit_and, hz, Bool.and_true] at e
    exact e
  · intro h
    refine Nat.eq_of_testBit_eq fun z => ?_
    rw [Nat.testBit_and, Nat.zero_testBit]
    cases hb : b.testBit z
    · rw [Bool.and_false]
    · rw [h z hb]; rfl
/-- No edge of the set below x crosses one of a greater number. -/
def Pl (c : Nat → Nat) (x U : Nat) : Prop := ∀ y, y < x → U.testBit y = true → ∀ z, y < z → U.testBit z = true → (c y).testBit z = false
theorem mem_plT {c : Nat → Nat} : ∀ (x m T : Nat), (∀ y, y < x → T.testBit y = false) → ∀ U, U ∈ plT c x m T ↔ (∀ y, x ≤ y → U.testBit y = T.testBit y) ∧ sizE x U = m ∧ Pl c x U
  | 0, m, T, _, U => by
    unfold plT
    split
    · rename_i h
      have h := beq_iff_eq.1 h
      rw [List.mem_singleton]
      constructor
      · rintro rfl; exact ⟨fun _ _ => rfl, by rw [h]; rfl, fun y hy => by omega⟩
      · rintro ⟨h2, -, -⟩; exact Nat.eq_of_testBit_eq fun y => h2 y (Nat.zero_le _)
    · rename_i h
      constructor
      · intro hm; cases hm
      · rintro ⟨-, h2, -⟩
        exact absurd (beq_iff_eq.2 h2.symm) h
  | x + 1, m, T, hlow, U => by
    have hTx := hlow x (by omega)
    have low2 : ∀ y, y < x → (T + 2 ^ x).testBit y = false := fun y hy => by
      rw [bit_add hTx, hlow y (by omega)]
      simp; omega
    have ih1 := mem_plT (c := c) x m T (fun y hy => hlow y (by omega)) U
    have ih2 := mem_plT (c := c) x (m - 1) (T + 2 ^ x) low2 U
    have hs := sizE_succ x U
    unfold plT
    split
    · rename_i h
      have h := beq_iff_eq.1 h
      subst h
      rw [List.mem_singleton]
      constructor
      · rintro rfl; exact ⟨fun _ _ => rfl, sizE_zero.2 hlow, fun y hy hb => by rw [hlow y hy] at hb; cases hb⟩
      · rintro ⟨h2, h3, -⟩
        refine Nat.eq_of_testBit_eq fun y => ?_
        rcases Nat.lt_or_ge y (x + 1) with hy | hy
        · rw [hlow y hy, sizE_zero.1 h3 y hy]
        · exact h2 y hy
    · rename_i hm
      have hm : m ≠ 0 := fun e => hm (beq_iff_eq.2 e)
      split
      · rename_i h
        have h := of_decide_eq_true h
        have := sizE_le U (x + 1)
        constructor
        · intro hm; cases hm
        · rintro ⟨-, h2, -⟩; omega
      · rw [List.mem_append]
        constructor
        · rintro (h | h)
          · obtain ⟨h1, h2, h3⟩ := ih1.1 h
            have hux : U.testBit x = false := by rw [h1 x (Nat.le_refl _)]; exact hTx
            refine ⟨fun y hy => h1 y (by omega), by rw [hs, hux, h2]; rfl, fun y hy hb => ?_⟩
            rcases Nat.lt_or_ge y x with k | k
            · exact h3 y k hb
            · obtain rfl : y = x := by omega
              rw [hux] at hb; cases hb
          · split at h
            · rename_i hc
              obtain ⟨h1, h2, h3⟩ := ih2.1 h
              have hux : U.testBit x = true := by rw [h1 x (Nat.le_refl _), bit_add hTx]; simp
              have hup : ∀ y, x + 1 ≤ y → U.testBit y = T.testBit y := fun y hy => by
                rw [h1 y (by omega), bit_add hTx]
                simp; omega
              refine ⟨hup, by rw [hs, if_pos hux, h2]; omega, fun y hy hb z hz hbz => ?_⟩
              rcases Nat.lt_or_ge y x with k | k
              · exact h3 y k hb z hz hbz
              · obtain rfl : y = x := by omega
                exact and_zero_iff.1 hc z (by rw [← hup z (by omega)]; exact hbz)
            · cases h
        · rintro ⟨h1, h2, h3⟩
          cases hux : U.testBit x
          · refine .inl (ih1.2 ⟨fun y hy => ?_, ?_, fun y hy => h3 y (by omega)⟩)
            · rcases Nat.lt_or_ge x y with k | k
              · exact h1 y (by omega)
              · obtain rfl : y = x := by omega
                rw [hux, hTx]
            · rw [hs, hux] at h2
              simpa using h2
          · refine .inr ?_
            rw [if_pos (and_zero_iff.2 fun z hz => ?_)]
            · refine ih2.2 ⟨fun y hy => ?_, ?_, fun y hy => h3 y (by omega)⟩
              · rw [bit_add hTx]
                rcases Nat.lt_or_ge x y with k | k
                · rw [h1 y (by omega), decide_eq_false (by omega), Bool.or_false]
                · obtain rfl : y = x := by omega
                  rw [hux]; simp
              · rw [hs, if_pos hux] at h2
                omega
            · rcases Nat.lt_or_ge x z with k | k
              · exact h3 x (by omega) hux z k (by rw [h1 z (by omega)]; exact hz)
              · rw [hlow z (by omega)] at hz; cases hz
theorem asc_plT {c : Nat → Nat} : ∀ (x m T : Nat), (∀ y, y < x → T.testBit y = false) → (plT c x m T).Pairwise (· < ·)
  | 0, m, T, _ => by
    unfold plT
    split
    · exact List.pairwise_singleton _ _
    · exact List.Pairwise.nil
  | x + 1, m, T, hlow => by
    have hTx := hlow x (by omega)
    have low1 : ∀ y, y < x → T.testBit y = false := fun y hy => hlow y (by omega)
    have low2 : ∀ y, y < x → (T + 2 ^ x).testBit y = false := fun y hy => by
      rw [bit_add hTx, hlow y (by omega)]
      simp; omega
    unfold plT
    split
    · exact List.pairwise_singleton _ _
    · split
      · exact List.Pairwise.nil
      · rw [List.pairwise_append]
        refine ⟨asc_plT x m T low1, ?_, ?_⟩
        · split
          · exact asc_plT x _ _ low2
          · exact List.Pairwise.nil
        · intro U hU V hV
          split at hV
          · obtain ⟨u, -⟩ := (mem_plT x m T low1 U).1 hU
            obtain ⟨v, -⟩ := (mem_plT x _ _ low2 V).1 hV
            refine lt_of_bit x (by rw [u x (Nat.le_refl _), hTx]) (by rw [v x (Nat.le_refl _), bit_add hTx]; simp) fun j hj => ?_
            rw [u j (by omega), v j (by omega), bit_add hTx, decide_eq_false (show ¬ j = x by omega), Bool.or_false]
          · cases hV
/-- The plane sets of m edges. -/
theorem mem_pl {c : Nat → Nat} {E m U : Nat} : U ∈ plT c E m 0 ↔ U < 2 ^ E ∧ sizE E U = m ∧ Pl c E U := by
  rw [mem_plT E m 0 (fun y _ => Nat.zero_testBit y)]
  constructor
  · rintro ⟨h1, h2, h3⟩
    exact ⟨lt_of_bits fun y hy => by rw [h1 y hy, Nat.zero_testBit], h2, h3⟩
  · rintro ⟨h1, h2, h3⟩
    exact ⟨fun y hy => by rw [bits_of_lt h1 y hy, Nat.zero_testBit], h2, h3⟩
end Go.Proofs.YtinlnafkmoabbaaGreatDoor.Sg
/- Plane sets, degrees under new names. Plain mathematics. -/
namespace Go.Proofs.YtinlnafkmoabbaaGreatDoor.Sg
theorem inc_bit (n i k : Nat) : (incM n i).testBit k = (decide (k < eN n) && ((edL n k).1 == i || (edL n k).2 == i)) := setN_bit _ _ _
/-- No two edges of the set cross. -/
def PlF (G : Nat → Nat → Nat → Int) (n U : Nat) : Prop := ∀ x, x < eN n → ∀ y, y < eN n → U.testBit x = true → U.testBit y = true → crG G n x y = false
theorem crG_self (G : Nat → Nat → Nat → Int) (n x : Nat) : crG G n x x = false := by rw [crG_is]; simp
section
variable {n : Nat} {G : Nat → Nat → Nat → Int}
theorem crG_sym (h7 : n ≤ 7) (hG : Om n G) {x y : Nat} (hx : x < eN n) (hy : y < eN n) : crG G n y x = crG G n x y := by
  obtain ⟨a1, a2⟩ := edL_lt (n := n) h7 hx
  obtain ⟨b1, b2⟩ := edL_lt (n := n) h7 hy
  rw [crG_is, crG_is]
  generalize edL n x = u at *
  generalize edL n y = v at *
  obtain ⟨a, b⟩ := u
  obtain ⟨c, d⟩ := v
  dsimp only at *
  by_cases hs : a = c ∨ a = d ∨ b = c ∨ b = d
  · have e1 : (a == c || (a == d || (b == c || b == d))) = true := by simpa using hs
    have e2 : (c == a || (c == b || (d == a || d == b))) = true := by
      simp only [Bool.or_eq_true, beq_iff_eq]
      omega
    rw [e1, e2]
    rfl
  · have h1 : a ≠ c := fun e => hs (.inl e)
    have h2 : a ≠ d := fun e => hs (.inr (.inl e))
    have h3 : b ≠ c := fun e => hs (.inr (.inr (.inl e)))
    have h4 : b ≠ d := fun e => hs (.inr (.inr (.inr e)))
    rw [beq_false_of_ne h1, beq_false_of_ne h2, beq_false_of_ne h3, beq_false_of_ne h4, beq_false_of_ne h1.symm, beq_false_of_ne h2.symm, beq_false_of_ne h3.symm, beq_false_of_ne h4.symm]
    simp only [Bool.or_false, Bool.not_false, Bool.true_and]
    have hab : a ≠ b := by omega
    have hcd : c ≠ d := by omega
    have k1 := hG.s1 (a := a) (b := c) (c := b) h1 hab h3.symm
    have k2 := hG.s2 (a := a) (b := b) (c := c) hab h1 h3
    have k3 := hG.s1 (a := a) (b := d) (c := b) h2 hab h4.symm
    have k4 := hG.s2 (a := a) (b := b) (c := d) hab h2 h4
    have k5 := hG.s1 (a := b) (b := c) (c := d) h3 h4 hcd
    have k6 := hG.s2 (a := c) (b := b) (c := d) h3.symm hcd h4
    have k7 := hG.s1 (a := a) (b := c) (c := d) h1 h2 hcd
    have k8 := hG.s2 (a := c) (b := a) (c := d) h1.symm hcd h2
    unfold oG
    rw [Bool.eq_iff_iff, Bool.and_eq_true, Bool.and_eq_true, beq_iff_eq, beq_iff_eq, beq_iff_eq, beq_iff_eq]
    omega
theorem pl_iff (h7 : n ≤ 7) (hG : Om n G) {U : Nat} (_hU : U < 2 ^ eN n) : Pl (crC G n) (eN n) U ↔ PlF G n U := by
  have hbit : ∀ y z, (crC G n y).testBit z = (decide (z < eN n) && crG G n y z) := fun y z => setN_bit _ _ _
  constructor
  · intro h x hx y hy bx by'
    rcases Nat.lt_trichotomy x y with k | k | k
    · have := h x hx bx y k by'
      rw [hbit, decide_eq_true hy, Bool.true_and] at this
      exact this
    · subst k; exact crG_self G n x
    · have := h y hy by' x k bx
      rw [hbit, decide_eq_true hx, Bool.true_and] at this
      rw [crG_sym h7 hG hy hx]
      exact this
  · intro h y hy by' z hz bz
    rw [hbit]
    rcases Nat.lt_or_ge z (eN n) with k | k
    · rw [h y hy z k by' bz, Bool.and_false]
    · rw [decide_eq_false (by omega), Bool.false_and]
end
section
variable {n : Nat} {p r : Nat → Nat} {G : Nat → Nat → Nat → Int} (h7 : n ≤ 7) (hp : Ren n p r)
include h7 hp
theorem pl_ren (hG : Om n G) (U : Nat) : PlF (renG p G) n (nmT n p U) ↔ PlF G n U := by
  have e1 := nmE_all h7 hp (P := fun x => ∀ y, y < eN n → U.testBit x = true → U.testBit y = true → crG G n x y = false)
  unfold PlF
  rw [← e1]
  refine forall_congr' fun x => forall_congr' fun hx => ?_
  have e2 := nmE_all h7 hp (P := fun y => U.testBit (nmE n p x) = true → U.testBit y = true → crG G n (nmE n p x) y = false)
  rw [← e2]
  refine forall_congr' fun y => forall_congr' fun hy => ?_
  rw [nmT_bit, nmT_bit, decide_eq_true hx, decide_eq_true hy, Bool.true_and, Bool.true_and, crG_ren h7 hp hG hx hy]
theorem inc_ren {i x : Nat} (hx : x < eN n) : (incM n (p i)).testBit (nmE n p x) = (incM n i).testBit x := by
  obtain ⟨hl, hc⟩ := nmE_ed h7 hp hx
  rw [inc_bit, inc_bit, decide_eq_true hl, decide_eq_true hx, Bool.true_and, Bool.true_and]
  have k : ∀ a, (p a == p i) = (a == i) := fun a => by
    rw [Bool.eq_iff_iff, beq_iff_eq, beq_iff_eq]
    exact ⟨fun e => hp.inj e, fun e => by rw [e]⟩
  rcases hc with ⟨-, e⟩ | ⟨-, e⟩
  · rw [e]; dsimp only; rw [k, k]
  · rw [e]; dsimp only; rw [k, k, Bool.or_comm]
theorem deg_ren (T i : Nat) : dgN n (nmT n p T) i = dgN n T (p i) := by
  have hperm : ((List.range (eN n)).map (nmE n p)).Perm (List.range (eN n)) := perm_inv List.nodup_range (g := nmE n r) (fun x hx => List.mem_range.2 (nmE_ed h7 hp (List.mem_range.1 hx)).1) (fun x hx => List.mem_range.2 (nmE_lt' h7 hp (List.mem_range.1 hx))) (fun x hx => nmE_back h7 hp (List.mem_range.1 hx)) (fun x hx => nmE_fwd h7 hp (List.mem_range.1 hx))
  unfold dgN sizE
  refine Eq.trans ?_ (hperm.countP_eq _)
  rw [List.countP_map]
  refine List.countP_congr fun x hx => ?_
  show ((nmT n p T &&& incM n i).testBit x = true) ↔ ((T &&& incM n (p i)).testBit (nmE n p x) = true)
  rw [Nat.testBit_and, Nat.testBit_and, inc_ren h7 hp (List.mem_range.1 hx), nmT_bit, decide_eq_true (List.mem_range.1 hx), Bool.true_and]
theorem fine_ren (least most T : Nat) : fineB n least most (nmT n p T) = fineB n least most T := by
  unfold fineB
  rw [Bool.eq_iff_iff, List.all_eq_true, List.all_eq_true]
  constructor
  · intro h i hi
    have hi := List.mem_range.1 hi
    have := h (r i) (List.mem_range.2 (hp.lt' hi))
    rw [deg_ren h7 hp, hp.r hi] at this
    exact this
  · intro h i hi
    have := h (p i) (List.mem_range.2 (hp.lt (List.mem_range.1 hi)))
    rw [deg_ren h7 hp]
    exact this
end
end Go.Proofs.YtinlnafkmoabbaaGreatDoor.Sg
/- Connected sets of edges: what the search reaches; under new names. Plain mathematics. -/
namespace Go.Proofs.YtinlnafkmoabbaaGreatDoor.Sg
/-- The neighbours of an element by the edges of a set. -/
def nbE (n T u : Nat) : List Nat := (List.range n).filter fun v => (u != v && decide (u < n)) && T.testBit (ixN n u v)
theorem mem_nbE {n T u v : Nat} : v ∈ nbE n T u ↔ u < n ∧ v < n ∧ u ≠ v ∧ T.testBit (ixN n u v) = true := by
  unfold nbE
  rw [List.mem_filter, List.mem_range, Bool.and_eq_true, Bool.and_eq_true, bne_iff_ne, decide_eq_true_eq]
  constructor
  · rintro ⟨a, ⟨b, c⟩, d⟩; exact ⟨c, a, b, d⟩
  · rintro ⟨a, b, c, d⟩; exact ⟨b, ⟨c, a⟩, d⟩
theorem nbE_sym {n T : Nat} (u v : Nat) (h : v ∈ nbE n T u) : u ∈ nbE n T v := by
  obtain ⟨a, b, c, d⟩ := mem_nbE.1 h
  exact mem_nbE.2 ⟨b, a, c.symm, by rw [ix_swap]; exact d⟩
theorem or_bits (R a b v : Nat) : (R ||| 2 ^ a ||| 2 ^ b).testBit v = (R.testBit v || (decide (a = v) || decide (b = v))) := by
  rw [Nat.testBit_or, Nat.testBit_or, Nat.testBit_two_pow, Nat.testBit_two_pow, Bool.or_assoc]
theorem rchL_mono (T : Nat) : ∀ (l : List (Nat × Nat)) (k R v : Nat), R.testBit v = true → (rchL T l k R).testBit v = true
  | [], _, _, _, h => h
  | p :: l, k, R, v, h => by
    unfold rchL
    refine rchL_mono T l (k + 1) _ v ?_
    split
    · rw [or_bits, h]; rfl
    · exact h
theorem rchL_sound (T : Nat) (P : Nat → Prop) : ∀ (l : List (Nat × Nat)) (k R : Nat), (∀ v, R.testBit v = true → P v) → (∀ (j : Nat) q, l[j]? = some q → T.testBit (k + j) = true → (P q.1 ∨ P q.2) → P q.1 ∧ P q.2) → ∀ v, (rchL T l k R).testBit v = true → P v
  | [], _, _, h, _, v, hv => h v hv
  | p :: l, k, R, h, he, v, hv => by
    unfold rchL at hv
    refine rchL_sound T P l (k + 1) _ (fun x hx => ?_) (fun j q hj ht => he (j + 1) q (by rw [List.getElem?_cons_succ]; exact hj) (by rw [show k + (j + 1) = k + 1 + j by omega]; exact ht)) v hv
    split at hx
    · rename_i hc
      rw [Bool.and_eq_true, Bool.or_eq_true] at hc
      have h2 := he 0 p rfl hc.1 (hc.2.imp (h _) (h _))
      rw [or_bits, Bool.or_eq_true, Bool.or_eq_true, decide_eq_true_eq, decide_eq_true_eq] at hx
      rcases hx with hx | rfl | rfl
      · exact h x hx
      · exact h2.1
      · exact h2.2
    · exact h x hx
theorem rchL_hit (T : Nat) : ∀ (l : List (Nat × Nat)) (k R j : Nat) (q : Nat × Nat), l[j]? = some q → T.testBit (k + j) = true → (R.testBit q.1 = true ∨ R.testBit q.2 = true) → (rchL T l k R).testBit q.1 = true ∧ (rchL T l k R).testBit q.2 = true
  | [], _, _, _, _, h, _, _ => by cases h
  | p :: l, k, R, 0, q, h, ht, hr => by
    obtain rfl : p = q := by simpa using h
    unfold rchL
    rw [if_pos (by rw [Bool.and_eq_true, Bool.or_eq_true]; exact ⟨ht, hr⟩)]
    exact ⟨rchL_mono T l _ _ _ (by rw [or_bits]; simp), rchL_mono T l _ _ _ (by rw [or_bits]; simp)⟩
  | p :: l, k, R, j + 1, q, h, ht, hr => by
    unfold rchL
    refine rchL_hit T l (k + 1) _ j q (by rw [List.getElem?_cons_succ] at h; exact h) (by rw [show k + 1 + j = k + (j + 1) by omega]; exact ht) ?_
    split
    · exact hr.imp (fun e => by rw [or_bits, e]; rfl) (fun e => by rw [or_bits, e]; rfl)
    · exact hr
theorem sizE_mono {R S : Nat} (h : ∀ v, R.testBit v = true → S.testBit v = true) : ∀ n, sizE n R ≤ sizE n S
  | 0 => Nat.le_refl _
  | n + 1 => by
    have := sizE_mono h n
    rw [sizE_succ, sizE_succ]
    cases hb : R.testBit n
    · simp; omega
    · rw [h n hb]; simp; omega
theorem sizE_same {R S : Nat} (h : ∀ v, R.testBit v = true → S.testBit v = true) : ∀ n, sizE n R = sizE n S → ∀ v, v < n → S.testBit v = R.testBit v
  | 0, _, v, hv => by omega
  | n + 1, e, v, hv => by
    have hm := sizE_mono h n
    rw [sizE_succ, sizE_succ] at e
    cases hb : R.testBit n
    · rw [hb] at e
      cases hc : S.testBit n
      · rw [hc] at e
        rcases Nat.lt_or_ge v n with k | k
        · exact sizE_same h n (by simpa using e) v k
        · obtain rfl : v = n := by omega
          rw [hb, hc]
      · rw [hc] at e
        simp at e
        omega
    · rw [hb, h n hb] at e
      rcases Nat.lt_or_ge v n with k | k
      · exact sizE_same h n (by simpa using e) v k
      · obtain rfl : v = n := by omega
        rw [hb, h v hb]
section
variable {n T : Nat} (h7 : n ≤ 7)
include h7
theorem pairs_at {j : Nat} {q : Nat × Nat} (h : (pairsU n)[j]? = some q) : j < eN n ∧ edL n j = q := by
  have hl := eN_len n (by omega)
  have hj := (List.getElem?_eq_some_iff.1 h).1
  refine ⟨by omega, ?_⟩
  unfold edL
  rw [List.getD_eq_getElem?_getD, h]
  rfl
theorem at_pairs {j : Nat} (hj : j < eN n) : (pairsU n)[j]? = some (edL n j) := by
  have hl := eN_len n (by omega)
  unfold edL
  rw [List.getD_eq_getElem?_getD, List.getElem?_eq_getElem (by omega)]
  rfl
theorem edge_nb {j : Nat} (hj : j < eN n) (ht : T.testBit j = true) : (edL n j).2 ∈ nbE n T (edL n j).1 := by
  obtain ⟨a1, a2⟩ := edL_lt (n := n) h7 hj
  exact mem_nbE.2 ⟨by omega, a2, by omega, by rw [ed_ix h7 hj]; exact ht⟩
theorem rch_sound (P : Nat → Prop) (h0 : P 0) (hP : ∀ u v, P u → v ∈ nbE n T u → P v) : ∀ k v, (rchP n T k).testBit v = true → P v
  | 0, v, h => by
    have h : (1 : Nat).testBit v = true := h
    rw [show (1 : Nat) = 2 ^ 0 from rfl, Nat.testBit_two_pow, decide_eq_true_eq] at h
    subst h; exact h0
  | k + 1, v, h => by
    refine rchL_sound T P (pairsU n) 0 _ (rch_sound P h0 hP k) (fun j q hj ht hq => ?_) v h
    obtain ⟨k1, k2⟩ := pairs_at h7 hj
    rw [Nat.zero_add] at ht
    have hn := edge_nb h7 k1 ht
    rw [k2] at hn
    rcases hq with hq | hq
    · exact ⟨hq, hP _ _ hq hn⟩
    · exact ⟨hP _ _ hq (nbE_sym _ _ hn), hq⟩
theorem rch_lt (h0 : 0 < n) (k v : Nat) (h : (rchP n T k).testBit v = true) : v < n :=
  rch_sound h7 (fun v => v < n) h0 (fun _ _ _ hm => (mem_nbE.1 hm).2.1) k v h
theorem rch_grow (h0 : 0 < n) : ∀ k, rchP n T (k + 1) = rchP n T k ∨ k + 1 ≤ sizE n (rchP n T k)
  | 0 => by
    refine .inr ?_
    obtain ⟨m, rfl⟩ : ∃ m, n = m + 1 := ⟨n - 1, by omega⟩
    refine Nat.pos_of_ne_zero fun e => ?_
    have h1 := sizE_zero.1 e 0 (by omega)
    have h2 : Nat.testBit 1 0 = false := h1
    exact absurd h2 (by decide)
  | k + 1 => by
    rcases rch_grow h0 k with h | h
    · refine .inl ?_
      show rchL T (pairsU n) 0 (rchP n T (k + 1)) = _
      rw [h]
      exact h
    · by_cases e : rchP n T (k + 2) = rchP n T (k + 1)
      · exact .inl e
      · refine .inr ?_
        have hm : ∀ v, (rchP n T k).testBit v = true → (rchP n T (k + 1)).testBit v = true := fun v hv => rchL_mono T _ 0 _ v hv
        have h1 := sizE_mono hm n
        rcases Nat.lt_or_ge (sizE n (rchP n T k)) (sizE n (rchP n T (k + 1))) with hlt | hge
        · omega
        · exfalso
          have hs := sizE_same hm n (by omega)
          have he : rchP n T (k + 1) = rchP n T k := Nat.eq_of_testBit_eq fun v => by
            rcases Nat.lt_or_ge v n with hv | hv
            · exact hs v hv
            · have x1 : (rchP n T (k + 1)).testBit v = false := by
                cases hb : (rchP n T (k + 1)).testBit v
                · rfl
                · have := rch_lt h7 h0 _ _ hb; omega
              have x2 : (rchP n T k).testBit v = false := by
                cases hb : (rchP n T k).testBit v
                · rfl
                · have := rch_lt h7 h0 _ _ hb; omega
              rw [x1, x2]
          refine e ?_
          show rchL T (pairsU n) 0 (rchP n T (k + 1)) = _
          rw [he]
          exact he
theorem rch_fix (h0 : 0 < n) : rchP n T (n + 1) = rchP n T n := by
  rcases rch_grow (T := T) h7 h0 n with h | h
  · exact h
  · have := sizE_le (rchP n T n) n
    omega
theorem rch_all (h0 : 0 < n) : ∀ {d v : Nat}, Wk (nbE n T) 0 d v → (rchP n T n).testBit v = true
  | 0, v, h => by
    have h : v = 0 := h
    subst h
    have : ∀ k, (rchP n T k).testBit 0 = true := fun k => by
      induction k with
      | zero => exact (by decide : Nat.testBit 1 0 = true)
      | succ k ih => exact rchL_mono T _ 0 _ 0 ih
    exact this n
  | d + 1, v, h => by
    obtain ⟨u, h1, h2⟩ := h
    have hu := rch_all h0 h1
    obtain ⟨k1, k2, k3, k4⟩ := mem_nbE.1 h2
    rw [← rch_fix h7 h0]
    show (rchL T (pairsU n) 0 (rchP n T n)).testBit v = true
    rcases Nat.lt_or_gt_of_ne k3 with hl | hl
    · obtain ⟨e1, e2⟩ := ix_ed h7 hl k2
      have := rchL_hit T (pairsU n) 0 (rchP n T n) (ixN n u v) (u, v) (by rw [at_pairs h7 e2, e1]) (by rw [Nat.zero_add]; exact k4) (.inl hu)
      exact this.2
    · obtain ⟨e1, e2⟩ := ix_ed h7 hl k1
      rw [ix_swap] at k4
      have := rchL_hit T (pairsU n) 0 (rchP n T n) (ixN n v u) (v, u) (by rw [at_pairs h7 e2, e1]) (by rw [Nat.zero_add]; exact k4) (.inr hu)
      exact this.1
theorem con_iff (h0 : 0 < n) : conB n T = true ↔ ∀ v, v < n → ∃ d, Wk (nbE n T) 0 d v := by
  unfold conB
  rw [beq_iff_eq]
  constructor
  · intro h v hv
    refine rch_sound (T := T) h7 (fun v => ∃ d, Wk (nbE n T) 0 d v) ⟨0, rfl⟩ (fun u v ⟨d, hd⟩ hm => ⟨d + 1, u, hd, hm⟩) n v ?_
    rw [h, Nat.testBit_two_pow_sub_one]
    exact decide_eq_true hv
  · intro h
    refine Nat.eq_of_testBit_eq fun v => ?_
    rw [Nat.testBit_two_pow_sub_one]
    rcases Nat.lt_or_ge v n with hv | hv
    · obtain ⟨d, hd⟩ := h v hv
      rw [rch_all h7 h0 hd, decide_eq_true hv]
    · rw [decide_eq_false (by omega)]
      cases hb : (rchP n T n).testBit v
      · rfl
      · have := rch_lt h7 h0 _ _ hb; omega
end
section
variable {n T : Nat} {p r : Nat → Nat} (h7 : n ≤ 7) (hp : Ren n p r)
include h7 hp
theorem nb_ren {u v : Nat} : v ∈ nbE n (nmT n p T) u ↔ u < n ∧ v < n ∧ p v ∈ nbE n T (p u) := by
  rw [mem_nbE, mem_nbE]
  constructor
  · rintro ⟨a, b, c, d⟩
    rw [nmT_bit, decide_eq_true (ix_ltE h7 a b c), nmE_ix h7 a b c] at d
    exact ⟨a, b, hp.lt a, hp.lt b, hp.ne c, d⟩
  · rintro ⟨a, b, -, -, c, d⟩
    have c : u ≠ v := fun e => c (by rw [e])
    exact ⟨a, b, c, by rw [nmT_bit, decide_eq_true (ix_ltE h7 a b c), nmE_ix h7 a b c]; exact d⟩
theorem wkE_ren {a : Nat} : ∀ {d v : Nat}, Wk (nbE n (nmT n p T)) a d v → Wk (nbE n T) (p a) d (p v)
  | 0, v, h => congrArg p h
  | d + 1, v, h => by
    obtain ⟨u, h1, h2⟩ := h
    exact ⟨p u, wkE_ren h1, ((nb_ren h7 hp).1 h2).2.2⟩
theorem wkE_back {a : Nat} (ha : a < n) : ∀ {d w : Nat}, Wk (nbE n T) (p a) d w → w < n ∧ Wk (nbE n (nmT n p T)) a d (r w)
  | 0, w, h => by
    have h : w = p a := h
    subst h
    exact ⟨hp.lt ha, hp.l ha⟩
  | d + 1, w, h => by
    obtain ⟨u, h1, h2⟩ := h
    obtain ⟨hu, h3⟩ := wkE_back ha h1
    obtain ⟨k1, k2, -⟩ := mem_nbE.1 h2
    exact ⟨k2, r u, h3, (nb_ren h7 hp).2 ⟨hp.lt' hu, hp.lt' k2, by rw [hp.r hu, hp.r k2]; exact h2⟩⟩
theorem con_ren (h0 : 0 < n) : conB n (nmT n p T) = conB n T := by
  rw [Bool.eq_iff_iff, con_iff h7 h0, con_iff h7 h0]
  constructor
  · intro h v hv
    have hw : ∀ w, w < n → ∃ d, Wk (nbE n T) (p 0) d w := fun w hw => by
      obtain ⟨d, hd⟩ := h (r w) (hp.lt' hw)
      have := wkE_ren h7 hp hd
      rw [hp.r hw] at this
      exact ⟨d, this⟩
    obtain ⟨d, hd⟩ := hw 0 h0
    obtain ⟨e, he⟩ := hw v hv
    exact ⟨d + e, wk_trans (wk_rev nbE_sym hd) he⟩
  · intro h v hv
    obtain ⟨d, hd⟩ := h (p 0) (hp.lt h0)
    obtain ⟨e, he⟩ := h (p v) (hp.lt hv)
    have := (wkE_back h7 hp h0 (wk_trans (wk_rev nbE_sym hd) he)).2
    rw [hp.l hv] at this
    exact ⟨_, this⟩
end
end Go.Proofs.YtinlnafkmoabbaaGreatDoor.Sg
/- How many plane trees, paths, polygons and matchings order signs have. Plain mathematics. -/
namespace Go.Proofs.YtinlnafkmoabbaaGreatDoor.Sg
theorem plT_congr {c c' : Nat → Nat} : ∀ (x m T : Nat), (∀ y, y < x → c y = c' y) → plT c x m T = plT c' x m T
  | 0, _, _, _ => rfl
  | x + 1, m, T, h => by
    unfold plT
    rw [plT_congr x m T fun y hy => h y (by omega), plT_congr x (m - 1) _ fun y hy => h y (by omega), h x (by omega)]
theorem asc_nodup {L : List Nat} (h : L.Pairwise (· < ·)) : L.Nodup := h.imp fun h => Nat.ne_of_lt h
/-- The plane sets of m edges of a kind. -/
def kindL (c : Nat → Nat) (n m : Nat) (Q : Nat → Bool) : List Nat := (plT c (eN n) m 0).filter Q
theorem mem_kind {G : Nat → Nat → Nat → Int} {n m U : Nat} {Q : Nat → Bool} (h7 : n ≤ 7) (hG : Om n G) : U ∈ kindL (crC G n) n m Q ↔ U < 2 ^ eN n ∧ sizE (eN n) U = m ∧ PlF G n U ∧ Q U = true := by
  unfold kindL
  rw [List.mem_filter, mem_pl]
  constructor
  · rintro ⟨⟨a, b, c⟩, d⟩; exact ⟨a, b, (pl_iff h7 hG a).1 c, d⟩
  · rintro ⟨a, b, c, d⟩; exact ⟨⟨a, b, (pl_iff h7 hG a).2 c⟩, d⟩
theorem kind_nodup (c : Nat → Nat) (n m : Nat) (Q : Nat → Bool) : (kindL c n m Q).Nodup := asc_nodup ((asc_plT (eN n) m 0 fun y _ => Nat.zero_testBit y).filter _)
theorem map_nodupK {L : List Nat} {f g : Nat → Nat} (h : L.Nodup) (hg : ∀ x ∈ L, g (f x) = x) : (L.map f).Nodup :=
  List.pairwise_map.2 (List.Pairwise.imp_of_mem (fun {a b} ha hb hab e => hab (by rw [← hg a ha, e, hg b hb])) h)
theorem kind_len {n m : Nat} {p r : Nat → Nat} {G : Nat → Nat → Nat → Int} {Q : Nat → Bool} (h7 : n ≤ 7) (hp : Ren n p r) (hG : OmA n G) (hQ : ∀ T, Q (nmT n p T) = Q T) :
    (kindL (crC (renG p G) n) n m Q).length = (kindL (crC G n) n m Q).length := by
  have hG' := (hp.om hG).om
  refine Nat.le_antisymm ?_ ?_
  · have h1 := nodup_sub ((kindL (crC (renG p G) n) n m Q).map (nmT n r)) (kindL (crC G n) n m Q) (map_nodupK (g := nmT n p) (kind_nodup _ _ _ _) fun x hx => nmT_fwd h7 hp ((mem_kind h7 hG').1 hx).1) fun x hx => by
      obtain ⟨y, hy, rfl⟩ := List.mem_map.1 hx
      obtain ⟨a, b, c, d⟩ := (mem_kind h7 hG').1 hy
      have hf := nmT_fwd h7 hp a
      rw [← hf] at b c d
      rw [size_ren h7 hp] at b
      rw [hQ] at d
      exact (mem_kind h7 hG.om).2 ⟨nmT_lt n r y, b, (pl_ren h7 hp hG.om _).1 c, d⟩
    rwa [List.length_map] at h1
  · have h1 := nodup_sub ((kindL (crC G n) n m Q).map (nmT n p)) (kindL (crC (renG p G) n) n m Q) (map_nodupK (g := nmT n r) (kind_nodup _ _ _ _) fun x hx => nmT_back h7 hp ((mem_kind h7 hG.om).1 hx).1) fun x hx => by
      obtain ⟨y, hy, rfl⟩ := List.mem_map.1 hx
      obtain ⟨a, b, c, d⟩ := (mem_kind h7 hG.om).1 hy
      exact (mem_kind h7 hG').2 ⟨nmT_lt n p y, by rw [size_ren h7 hp]; exact b, (pl_ren h7 hp hG.om _).2 c, by rw [hQ]; exact d⟩
    rwa [List.length_map] at h1
theorem kind_congr {G H : Nat → Nat → Nat → Int} {n m : Nat} {Q : Nat → Bool} (h7 : n ≤ 7) (h : Same n G H) : kindL (crC G n) n m Q = kindL (crC H n) n m Q := by
  unfold kindL
  rw [plT_congr (eN n) m 0 fun y hy => crC_congr h7 h hy]
/-- What is asked of the four kinds. -/
def qTree (n T : Nat) : Bool := fineB n 1 6 T && conB n T
def qPath (n T : Nat) : Bool := fineB n 1 2 T && conB n T
def qRing (n T : Nat) : Bool := fineB n 2 2 T && conB n T
def qPair (n T : Nat) : Bool := fineB n 1 1 T
/-- From a list of candidates. -/
theorem cand_in {c : Nat → Nat} {n m : Nat} {Q : Nat → Bool} {xs : List Nat} (h1 : sumP xs < 2 ^ eN n) (h2 : sizE (eN n) (sumP xs) = m) (h3 : Q (sumP xs) = true) (hb : bitsX n xs = true) (hx : plX c xs = true) : sumP xs ∈ kindL c n m Q := by
  unfold kindL
  rw [List.mem_filter, mem_pl]
  refine ⟨⟨h1, h2, fun y hy hby z hz hbz => ?_⟩, h3⟩
  have e := List.all_eq_true.1 hb y (List.mem_range.2 hy)
  rw [hby, beq_iff_eq] at e
  have hm : y ∈ xs := List.contains_iff_mem.1 e.symm
  have := List.all_eq_true.1 hx y hm
  exact and_zero_iff.1 this z hbz
theorem nodB_nodup : ∀ {L : List Nat}, nodB L = true → L.Nodup
  | [], _ => List.nodup_nil
  | a :: l, h => by
    unfold nodB at h
    rw [Bool.and_eq_true, Bool.not_eq_true'] at h
    refine List.nodup_cons.2 ⟨fun hm => ?_, nodB_nodup h.2⟩
    have := List.contains_iff_mem.2 hm
    rw [h.1] at this
    cases this
theorem many_of {c : Nat → Nat} {n m k : Nat} {Q : Nat → Bool} {C : List (List Nat)} (hn : nodB (C.map sumP) = true) (hq : ∀ xs ∈ C, sumP xs < 2 ^ eN n ∧ sizE (eN n) (sumP xs) = m ∧ Q (sumP xs) = true) (hb : ∀ xs ∈ C, bitsX n xs = true) (hk : k ≤ C.countP (plX c)) : k ≤ (kindL c n m Q).length := by
  refine Nat.le_trans hk ?_
  rw [List.countP_eq_length_filter]
  have hs : ((C.filter (plX c)).map sumP).Nodup := List.Nodup.sublist (List.Sublist.map sumP List.filter_sublist) (nodB_nodup hn)
  have h1 := nodup_sub ((C.filter (plX c)).map sumP) (kindL c n m Q) hs fun x hx => by
    obtain ⟨xs, hy, rfl⟩ := List.mem_map.1 hx
    obtain ⟨hm, hp⟩ := List.mem_filter.1 hy
    obtain ⟨a, b, d⟩ := hq xs hm
    exact cand_in a b d (hb xs hm) hp
  rwa [List.length_map] at h1
theorem some_of {c : Nat → Nat} {n m : Nat} {Q : Nat → Bool} {C : List (List Nat)} (hq : ∀ xs ∈ C, sumP xs < 2 ^ eN n ∧ sizE (eN n) (sumP xs) = m ∧ Q (sumP xs) = true) (hb : ∀ xs ∈ C, bitsX n xs = true) (hk : C.any (plX c) = true) : 0 < (kindL c n m Q).length := by
  obtain ⟨xs, hm, hp⟩ := List.any_eq_true.1 hk
  obtain ⟨a, b, d⟩ := hq xs hm
  exact List.length_pos_of_mem (cand_in a b d (hb xs hm) hp)
theorem path_of {n : Nat} {C : List (List Nat)} (h : C.all (pathB n) = true) : ∀ xs ∈ C, sumP xs < 2 ^ eN n ∧ sizE (eN n) (sumP xs) = n - 1 ∧ qPath n (sumP xs) = true := fun xs hx => by
  have := List.all_eq_true.1 h xs hx
  unfold pathB at this
  rw [Bool.and_eq_true, Bool.and_eq_true, decide_eq_true_eq, beq_iff_eq] at this
  exact this
theorem ring_of {n : Nat} {C : List (List Nat)} (h : C.all (ringB n) = true) : ∀ xs ∈ C, sumP xs < 2 ^ eN n ∧ sizE (eN n) (sumP xs) = n ∧ qRing n (sumP xs) = true := fun xs hx => by
  have := List.all_eq_true.1 h xs hx
  unfold ringB at this
  rw [Bool.and_eq_true, Bool.and_eq_true, decide_eq_true_eq, beq_iff_eq] at this
  exact this
theorem match_of {n : Nat} {C : List (List Nat)} (h : C.all (matchB n) = true) : ∀ xs ∈ C, sumP xs < 2 ^ eN n ∧ sizE (eN n) (sumP xs) = n / 2 ∧ qPair n (sumP xs) = true := fun xs hx => by
  have := List.all_eq_true.1 h xs hx
  unfold matchB at this
  rw [Bool.and_eq_true, Bool.and_eq_true, decide_eq_true_eq, beq_iff_eq] at this
  exact this
theorem all_of {α : Type} {L : List α} {q : α → Bool} (h : L.all q = true) : ∀ x ∈ L, q x = true := List.all_eq_true.1 h
/-- How many plane trees and paths convex signs have. -/
def trN (n : Nat) : Nat := if n = 3 then 3 else if n = 4 then 12 else if n = 5 then 55 else 273
def paN (n : Nat) : Nat := if n = 3 then 3 else if n = 4 then 8 else if n = 5 then 20 else 48
/-- The numbers. -/
structure Nums (c : Nat → Nat) (n h : Nat) : Prop where
  path : n ≤ (kindL c n (n - 1) (qPath n)).length
  ring : 0 < (kindL c n n (qRing n)).length
  pair : n % 2 = 0 → 0 < (kindL c n (n / 2) (qPair n)).length
  cnvT : h = n → (kindL c n (n - 1) (qTree n)).length = trN n
  cnvP : h = n → (kindL c n (n - 1) (qPath n)).length = paN n
  cnvR : h = n → (kindL c n n (qRing n)).length = 1
theorem nums_sorted {n : Nat} {G : Nat → Nat → Nat → Int} (h3 : 3 ≤ n) (h6 : n ≤ 6) (hG : OmA n G) (hs : ∀ i j, 0 < i → i < j → j < n → G 0 i j = 1) : Nums (crC G n) n (hulG G n) := by
  have h7 : n ≤ 7 := by omega
  have key : ∀ K, (n - 1) * (n - 2) * (n - 3) / 6 = K → (List.range (2 ^ K)).all (fun b => !okG (gB b) n || manyG (gB b) n) = true → (List.range (2 ^ K)).all (fun b => !(okG (gB b) n && hulG (gB b) n == n) || b == 2 ^ K - 1) = true → cnvC n (trN n) (paN n) = true →
      nodB ((hamP n).map sumP) = true → (hamP n).all (pathB n) = true → (hamR n).all (ringB n) = true → (n % 2 = 0 → (hamM n).all (matchB n) = true) → (hamP n).all (bitsX n) = true → (hamR n).all (bitsX n) = true → (n % 2 = 0 → (hamM n).all (bitsX n) = true) → Nums (crC G n) n (hulG G n) := fun K hK hmany honly hcnv a1 a2 a3 a4 b2 b3 b4 => by
    have hm := gB_match hG.om hs (by omega : (n - 1) * (n - 2) * (n - 3) / 6 ≤ K) h6
    have hlt := setN_lt (bitG G) K
    have h0 := List.all_eq_true.1 hmany (setN (bitG G) K) (List.mem_range.2 hlt)
    have h1 := List.all_eq_true.1 honly (setN (bitG G) K) (List.mem_range.2 hlt)
    rw [okG_of h7 hG hm, Bool.not_true, Bool.false_or] at h0
    rw [okG_of h7 hG hm, Bool.true_and] at h1
    have hh := hulG_congr h7 hm
    generalize setN (bitG G) K = b at *
    unfold manyG at h0
    rw [Bool.and_eq_true, Bool.and_eq_true, decide_eq_true_eq] at h0
    obtain ⟨m1, m2, m3⟩ := h0
    have hcx : hulG G n = n → gB b = convexG n := fun e => by
      rw [hh, e] at h1
      have h1 : b = 2 ^ K - 1 := by simpa using h1
      unfold convexG
      rw [hK, ← h1]
    unfold cnvC at hcnv
    rw [Bool.and_eq_true, Bool.and_eq_true, beq_iff_eq, beq_iff_eq, beq_iff_eq] at hcnv
    obtain ⟨c1, c2, c3⟩ := hcnv
    have tr : ∀ m Q, kindL (crC G n) n m Q = kindL (crC (gB b) n) n m Q := fun m Q => (kind_congr h7 hm).symm
    refine ⟨?_, ?_, fun he => ?_, fun he => ?_, fun he => ?_, fun he => ?_⟩
    · rw [tr]; exact many_of a1 (path_of a2) (all_of b2) m1
    · rw [tr]; exact some_of (ring_of a3) (all_of b3) m2
    · rw [tr]
      rw [decide_eq_false (by omega), Bool.false_or] at m3
      exact some_of (match_of (a4 he)) (all_of (b4 he)) m3
    · rw [tr, hcx he]; exact c1
    · rw [tr, hcx he]; exact c2
    · rw [tr, hcx he]; exact c3
  have c3 := cnv3
  have c4 := cnv4
  have c5 := cnv5
  have c6 := cnv6
  have k3 := ham3
  have k4 := ham4
  have k5 := ham5
  have k6 := ham6
  have d3 := bits3
  have d4 := bits4
  have d5 := bits5
  have d6 := bits6
  simp only [Bool.and_eq_true] at c3 c4 c5 c6 k3 k4 k5 k6 d3 d4 d5 d6
  rcases (by omega : n = 3 ∨ n = 4 ∨ n = 5 ∨ n = 6) with rfl | rfl | rfl | rfl
  · exact key 0 rfl many3 only3 c3.2 k3.1 k3.2.1 k3.2.2 (fun e => by omega) d3.1 d3.2 (fun e => by omega)
  · exact key 1 rfl many4 only4 c4.2 k4.1 k4.2.1 k4.2.2.1 (fun _ => k4.2.2.2) d4.1 d4.2.1 (fun _ => d4.2.2)
  · exact key 4 rfl many5 only5 c5.2 k5.1 k5.2.1 k5.2.2 (fun e => by omega) d5.1 d5.2 (fun e => by omega)
  · exact key 10 rfl many6 only6 c6.2 k6.1 k6.2.1 k6.2.2.1 (fun _ => k6.2.2.2) d6.1 d6.2.1 (fun _ => d6.2.2)
/-- What FnTrees asks of the numbers. -/
theorem fts_main {n : Nat} {s : List UInt8} (h : aciB n s = true) (h6 : n ≤ 6) : Nums (crC (sgS n s) n) n (hulG (sgS n s) n) := by
  obtain ⟨h3, -⟩ := aciB_n h
  have h7 : n ≤ 7 := by omega
  obtain ⟨p, r, hp, hs⟩ := sorted_names h
  have hA := omA_sgn h
  generalize sgS n s = G at *
  obtain ⟨n1, n2, n3, n4, n5, n6⟩ := nums_sorted (by omega) h6 (hp.om hA) hs
  have q1 : ∀ T, qTree n (nmT n p T) = qTree n T := fun T => by unfold qTree; rw [fine_ren h7 hp, con_ren h7 hp (by omega)]
  have q2 : ∀ T, qPath n (nmT n p T) = qPath n T := fun T => by unfold qPath; rw [fine_ren h7 hp, con_ren h7 hp (by omega)]
  have q3 : ∀ T, qRing n (nmT n p T) = qRing n T := fun T => by unfold qRing; rw [fine_ren h7 hp, con_ren h7 hp (by omega)]
  have q4 : ∀ T, qPair n (nmT n p T) = qPair n T := fun T => by unfold qPair; rw [fine_ren h7 hp]
  rw [kind_len h7 hp hA q2] at n1 n5
  rw [kind_len h7 hp hA q3] at n2 n6
  rw [kind_len h7 hp hA q4] at n3
  rw [kind_len h7 hp hA q1] at n4
  rw [hul_ren h7 hp hA.om] at n4 n5 n6
  exact ⟨n1, n2, n3, n4, n5, n6⟩
end Go.Proofs.YtinlnafkmoabbaaGreatDoor.Sg
/- The degrees of a set of edges: their sum. Plain mathematics. -/
namespace Go.Proofs.YtinlnafkmoabbaaGreatDoor.Sg
theorem sum_addL (f g : Nat → Nat) : ∀ L : List Nat, (L.map fun i => f i + g i).sum = (L.map f).sum + (L.map g).sum
  | [] => rfl
  | a :: l => by
    have := sum_addL f g l
    simp only [List.map_cons, List.sum_cons]
    omega
theorem sum_ifs (q : Nat → Bool) : ∀ L : List Nat, (L.map fun i => if q i = true then 1 else 0).sum = L.countP q
  | [] => rfl
  | a :: l => by
    have := sum_ifs q l
    rw [List.map_cons, List.sum_cons, List.countP_cons, this]
    omega
theorem two_ends : ((List.range 8).all fun n => (List.range n).all fun b => (List.range b).all fun a => (List.range n).countP (fun i => a == i || b == i) == 2) = true := by decide +kernel
theorem deg_sum {n : Nat} (h7 : n ≤ 7) (T : Nat) : ∀ K, K ≤ eN n → ((List.range n).map fun i => sizE K (T &&& incM n i)).sum = 2 * sizE K T
  | 0, _ => by
    have : ∀ L : List Nat, (L.map fun i => sizE 0 (T &&& incM n i)).sum = 0 := fun L => by
      induction L with
      | nil => rfl
      | cons a l ih => rw [List.map_cons, List.sum_cons, ih]; rfl
    rw [this]
    rfl
  | K + 1, hK => by
    have ih := deg_sum h7 T K (by omega)
    have e : (fun i => sizE (K + 1) (T &&& incM n i)) = fun i => sizE K (T &&& incM n i) + (if (T &&& incM n i).testBit K = true then 1 else 0) := by
      funext i
      exact sizE_succ K _
    rw [e, sum_addL, ih, sum_ifs (fun i => (T &&& incM n i).testBit K), sizE_succ]
    obtain ⟨a1, a2⟩ := edL_lt (n := n) h7 (k := K) (by omega)
    have h2 := eq_of_beq (List.all_eq_true.1 (List.all_eq_true.1 (List.all_eq_true.1 two_ends n (List.mem_range.2 (by omega))) (edL n K).2 (List.mem_range.2 a2)) (edL n K).1 (List.mem_range.2 a1))
    cases hb : T.testBit K
    · have : (List.range n).countP (fun i => (T &&& incM n i).testBit K) = 0 := by
        rw [List.countP_eq_zero]
        intro i _ hi
        rw [Nat.testBit_and, hb] at hi
        cases hi
      rw [this]
      simp
    · have : (List.range n).countP (fun i => (T &&& incM n i).testBit K) = 2 := by
        refine Eq.trans (List.countP_congr fun i _ => ?_) h2
        rw [Nat.testBit_and, hb, inc_bit, decide_eq_true (show K < eN n by omega), Bool.true_and, Bool.true_and]
      rw [this]
      simp
      omega
theorem deg_total {n : Nat} (h7 : n ≤ 7) (T : Nat) : ((List.range n).map (dgN n T)).sum = 2 * sizE (eN n) T := deg_sum h7 T (eN n) (Nat.le_refl _)
end Go.Proofs.YtinlnafkmoabbaaGreatDoor.Sg
