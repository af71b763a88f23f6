/- Several texts in one: FtCheck, FtSets, FtMove, FtConn, FtSame, FtDeg. -/
import Derived.Test.YtinlnafkmoabbaaDoorMgTa
import Derived.Test.YtinlnafkmoabbaaDoorMgTb
/- Plane trees, paths, polygons and matchings of sorted signs: finite checks, n up to 6. Plain mathematics. -/
namespace Go.Proofs.YtinlnafkmoabbaaDoor.Sg
/-- The plane sets of m of the first x edges, added to T, ascending as spec's l11Plane finds them. -/
def plT (c : Nat → Nat) : Nat → Nat → Nat → List Nat
  | 0, m, T => if (m == 0) = true then [T] else []
  | x + 1, m, T => if (m == 0) = true then [T] else if decide (x + 1 < m) = true then [] else plT c x m T ++ (if (c x &&& T == 0) = true then plT c x (m - 1) (T + 2 ^ x) else [])
/-- The edges of an element. -/
def incM (n i : Nat) : Nat := setN (fun k => (edL n k).1 == i || (edL n k).2 == i) (eN n)
/-- How many edges of a set an element has. -/
def dgN (n T i : Nat) : Nat := sizE (eN n) (T &&& incM n i)
/-- One pass of the search: what is reached with the edges k, k + 1, .. -/
def rchL (T : Nat) : List (Nat × Nat) → Nat → Nat → Nat
  | [], _, R => R
  | p :: l, k, R => rchL T l (k + 1) (if (T.testBit k && (R.testBit p.1 || R.testBit p.2)) = true then R ||| 2 ^ p.1 ||| 2 ^ p.2 else R)
def rchP (n T : Nat) : Nat → Nat
  | 0 => 1
  | k + 1 => rchL T (pairsU n) 0 (rchP n T k)
def conB (n T : Nat) : Bool := rchP n T n == 2 ^ n - 1
def fineB (n least most T : Nat) : Bool := (List.range n).all fun i => decide (least ≤ dgN n T i) && decide (dgN n T i ≤ most)
end Go.Proofs.YtinlnafkmoabbaaDoor.Sg
/- The plane sets of a number of edges: what l11Plane's list holds. Plain mathematics. -/
namespace Go.Proofs.YtinlnafkmoabbaaDoor.Sg
theorem sizE_succ (x U : Nat) : sizE (x + 1) U = sizE x U + if U.testBit x = true then 1 else 0 := by
  unfold sizE
  rw [List.range_succ, List.countP_append, List.countP_singleton]
theorem sizE_le (U : Nat) : ∀ x, sizE x U ≤ x := fun x => by
  unfold sizE
  exact Nat.le_trans List.countP_le_length (by simp)
theorem sizE_zero {x U : Nat} : sizE x U = 0 ↔ ∀ y, y < x → U.testBit y = false := by
  unfold sizE
  rw [List.countP_eq_zero]
  constructor
  · intro h y hy
    have := h y (List.mem_range.2 hy)
    simpa using this
  · intro h y hy
    rw [h y (List.mem_range.1 hy)]
    simp
theorem and_zero_iff {a b : Nat} : (a &&& b == 0) = true ↔ ∀ z, b.testBit z = true → a.testBit z = false := by
  rw [beq_iff_eq]
  constructor
  · intro h z hz
    have e : (a &&& b).testBit z = false := by rw [h, Nat.zero_testBit]
    rw [Nat.testBit_and, hz, Bool.and_true] at e
    exact e
  · intro h
    refine Nat.eq_of_testBit_eq fun z => ?_
    rw [Nat.testBit_and, Nat.zero_testBit]
    cases hb : b.testBit z
    · rw [Bool.and_false]
    · rw [h z hb]; rfl
/-- No edge of the set below x crosses one of a greater number. -/
def Pl (c : Nat → Nat) (x U : Nat) : Prop := ∀ y, y < x → U.testBit y = true → ∀ z, y < z → U.testBit z = true → (c y).testBit z = false
theorem mem_plT {c : Nat → Nat} : ∀ (x m T : Nat), (∀ y, y < x → T.testBit y = false) → ∀ U, U ∈ plT c x m T ↔ (∀ y, x ≤ y → U.testBit y = T.testBit y) ∧ sizE x U = m ∧ Pl c x U
  | 0, m, T, _, U => by
    unfold plT
    split
    · rename_i h
      have h := beq_iff_eq.1 h
      rw [List.mem_singleton]
      constructor
      · rintro rfl; exact ⟨fun _ _ => rfl, by rw [h]; rfl, fun y hy => by omega⟩
      · rintro ⟨h2, -, -⟩; exact Nat.eq_of_testBit_eq fun y => h2 y (Nat.zero_le _)
    · rename_i h
      constructor
      · intro hm; cases hm
      · rintro ⟨-, h2, -⟩
        exact absurd (beq_iff_eq.2 h2.symm) h
  | x + 1, m, T, hlow, U => by
    have hTx := hlow x (by omega)
    have low2 : ∀ y, y < x → (T + 2 ^ x).testBit y = false := fun y hy => by
      rw [bit_add hTx, hlow y (by omega)]
      simp; omega
    have ih1 := mem_plT (c := c) x m T (fun y hy => hlow y (by omega)) U
    have ih2 := mem_plT (c := c) x (m - 1) (T + 2 ^ x) low2 U
    have hs := sizE_succ x U
    unfold plT
    split
    · rename_i h
      have h := beq_iff_eq.1 h
      subst h
      rw [List.mem_singleton]
      constructor
      · rintro rfl; exact ⟨fun _ _ => rfl, sizE_zero.2 hlow, fun y hy hb => by rw [hlow y hy] at hb; cases hb⟩
      · rintro ⟨h2, h3, -⟩
        refine Nat.eq_of_testBit_eq fun y => ?_
        rcases Nat.lt_or_ge y (x + 1) with hy | hy
        · rw [hlow y hy, sizE_zero.1 h3 y hy]
        · exact h2 y hy
    · rename_i hm
      have hm : m ≠ 0 := fun e => hm (beq_iff_eq.2 e)
      split
      · rename_i h
        have h := of_decide_eq_true h
        have := sizE_le U (x + 1)
        constructor
        · intro hm; cases hm
        · rintro ⟨-, h2, -⟩; omega
      · rw [List.mem_append]
        constructor
        · rintro (h | h)
          · obtain ⟨h1, h2, h3⟩ := ih1.1 h
            have hux : U.testBit x = false := by rw [h1 x (Nat.le_refl _)]; exact hTx
            refine ⟨fun y hy => h1 y (by omega), by rw [hs, hux, h2]; rfl, fun y hy hb => ?_⟩
            rcases Nat.lt_or_ge y x with k | k
            · exact h3 y k hb
            · obtain rfl : y = x := by omega
              rw [hux] at hb; cases hb
          · split at h
            · rename_i hc
              obtain ⟨h1, h2, h3⟩ := ih2.1 h
              have hux : U.testBit x = true := by rw [h1 x (Nat.le_refl _), bit_add hTx]; simp
              have hup : ∀ y, x + 1 ≤ y → U.testBit y = T.testBit y := fun y hy => by
                rw [h1 y (by omega), bit_add hTx]
                simp; omega
              refine ⟨hup, by rw [hs, if_pos hux, h2]; omega, fun y hy hb z hz hbz => ?_⟩
              rcases Nat.lt_or_ge y x with k | k
              · exact h3 y k hb z hz hbz
              · obtain rfl : y = x := by omega
                exact and_zero_iff.1 hc z (by rw [← hup z (by omega)]; exact hbz)
            · cases h
        · rintro ⟨h1, h2, h3⟩
          cases hux : U.testBit x
          · refine .inl (ih1.2 ⟨fun y hy => ?_, ?_, fun y hy => h3 y (by omega)⟩)
            · rcases Nat.lt_or_ge x y with k | k
              · exact h1 y (by omega)
              · obtain rfl : y = x := by omega
                rw [hux, hTx]
            · rw [hs, hux] at h2
              simpa using h2
          · refine .inr ?_
            rw [if_pos (and_zero_iff.2 fun z hz => ?_)]
            · refine ih2.2 ⟨fun y hy => ?_, ?_, fun y hy => h3 y (by omega)⟩
              · rw [bit_add hTx]
                rcases Nat.lt_or_ge x y with k | k
                · rw [h1 y (by omega), decide_eq_false (by omega), Bool.or_false]
                · obtain rfl : y = x := by omega
                  rw [hux]; simp
              · rw [hs, if_pos hux] at h2
                omega
            · rcases Nat.lt_or_ge x z with k | k
              · exact h3 x (by omega) hux z k (by rw [h1 z (by omega)]; exact hz)
              · rw [hlow z (by omega)] at hz; cases hz
theorem asc_plT {c : Nat → Nat} : ∀ (x m T : Nat), (∀ y, y < x → T.testBit y = false) → (plT c x m T).Pairwise (· < ·)
  | 0, m, T, _ => by
    unfold plT
    split
    · exact List.pairwise_singleton _ _
    · exact List.Pairwise.nil
  | x + 1, m, T, hlow => by
    have hTx := hlow x (by omega)
    have low1 : ∀ y, y < x → T.testBit y = false := fun y hy => hlow y (by omega)
    have low2 : ∀ y, y < x → (T + 2 ^ x).testBit y = false := fun y hy => by
      rw [bit_add hTx, hlow y (by omega)]
      simp; omega
    unfold plT
    split
    · exact List.pairwise_singleton _ _
    · split
      · exact List.Pairwise.nil
      · rw [List.pairwise_append]
        refine ⟨asc_plT x m T low1, ?_, ?_⟩
        · split
          · exact asc_plT x _ _ low2
          · exact List.Pairwise.nil
        · intro U hU V hV
          split at hV
          · obtain ⟨u, -⟩ := (mem_plT x m T low1 U).1 hU
            obtain ⟨v, -⟩ := (mem_plT x _ _ low2 V).1 hV
            refine lt_of_bit x (by rw [u x (Nat.le_refl _), hTx]) (by rw [v x (Nat.le_refl _), bit_add hTx]; simp) fun j hj => ?_
            rw [u j (by omega), v j (by omega), bit_add hTx, decide_eq_false (show ¬ j = x by omega), Bool.or_false]
          · cases hV
/-- The plane sets of m edges. -/
theorem mem_pl {c : Nat → Nat} {E m U : Nat} : U ∈ plT c E m 0 ↔ U < 2 ^ E ∧ sizE E U = m ∧ Pl c E U := by
  rw [mem_plT E m 0 (fun y _ => Nat.zero_testBit y)]
  constructor
  · rintro ⟨h1, h2, h3⟩
    exact ⟨lt_of_bits fun y hy => by rw [h1 y hy, Nat.zero_testBit], h2, h3⟩
  · rintro ⟨h1, h2, h3⟩
    exact ⟨fun y hy => by rw [bits_of_lt h1 y hy, Nat.zero_testBit], h2, h3⟩
end Go.Proofs.YtinlnafkmoabbaaDoor.Sg
/- Plane sets, degrees under new names. Plain mathematics. -/
namespace Go.Proofs.YtinlnafkmoabbaaDoor.Sg
theorem inc_bit (n i k : Nat) : (incM n i).testBit k = (decide (k < eN n) && ((edL n k).1 == i || (edL n k).2 == i)) := setN_bit _ _ _
section
variable {n : Nat} {G : Nat → Nat → Nat → Int}
end
section
variable {n : Nat} {p r : Nat → Nat} {G : Nat → Nat → Nat → Int} (h7 : n ≤ 7) (hp : Ren n p r)
include h7 hp
end
end Go.Proofs.YtinlnafkmoabbaaDoor.Sg
/- Connected sets of edges: what the search reaches; under new names. Plain mathematics. -/
namespace Go.Proofs.YtinlnafkmoabbaaDoor.Sg
/-- The neighbours of an element by the edges of a set. -/
def nbE (n T u : Nat) : List Nat := (List.range n).filter fun v => (u != v && decide (u < n)) && T.testBit (ixN n u v)
theorem mem_nbE {n T u v : Nat} : v ∈ nbE n T u ↔ u < n ∧ v < n ∧ u ≠ v ∧ T.testBit (ixN n u v) = true := by
  unfold nbE
  rw [List.mem_filter, List.mem_range, Bool.and_eq_true, Bool.and_eq_true, bne_iff_ne, decide_eq_true_eq]
  constructor
  · rintro ⟨a, ⟨b, c⟩, d⟩; exact ⟨c, a, b, d⟩
  · rintro ⟨a, b, c, d⟩; exact ⟨b, ⟨c, a⟩, d⟩
theorem nbE_sym {n T : Nat} (u v : Nat) (h : v ∈ nbE n T u) : u ∈ nbE n T v := by
  obtain ⟨a, b, c, d⟩ := mem_nbE.1 h
  exact mem_nbE.2 ⟨b, a, c.symm, by rw [ix_swap]; exact d⟩
theorem or_bits (R a b v : Nat) : (R ||| 2 ^ a ||| 2 ^ b).testBit v = (R.testBit v || (decide (a = v) || decide (b = v))) := by
  rw [Nat.testBit_or, Nat.testBit_or, Nat.testBit_two_pow, Nat.testBit_two_pow, Bool.or_assoc]
theorem rchL_mono (T : Nat) : ∀ (l : List (Nat × Nat)) (k R v : Nat), R.testBit v = true → (rchL T l k R).testBit v = true
  | [], _, _, _, h => h
  | p :: l, k, R, v, h => by
    unfold rchL
    refine rchL_mono T l (k + 1) _ v ?_
    split
    · rw [or_bits, h]; rfl
    · exact h
theorem rchL_sound (T : Nat) (P : Nat → Prop) : ∀ (l : List (Nat × Nat)) (k R : Nat), (∀ v, R.testBit v = true → P v) → (∀ (j : Nat) q, l[j]? = some q → T.testBit (k + j) = true → (P q.1 ∨ P q.2) → P q.1 ∧ P q.2) → ∀ v, (rchL T l k R).testBit v = true → P v
  | [], _, _, h, _, v, hv => h v hv
  | p :: l, k, R, h, he, v, hv => by
    unfold rchL at hv
    refine rchL_sound T P l (k + 1) _ (fun x hx => ?_) (fun j q hj ht => he (j + 1) q (by rw [List.getElem?_cons_succ]; exact hj) (by rw [show k + (j + 1) = k + 1 + j by omega]; exact ht)) v hv
    split at hx
    · rename_i hc
      rw [Bool.and_eq_true, Bool.or_eq_true] at hc
      have h2 := he 0 p rfl hc.1 (hc.2.imp (h _) (h _))
      rw [or_bits, Bool.or_eq_true, Bool.or_eq_true, decide_eq_true_eq, decide_eq_true_eq] at hx
      rcases hx with hx | rfl | rfl
      · exact h x hx
      · exact h2.1
      · exact h2.2
    · exact h x hx
theorem rchL_hit (T : Nat) : ∀ (l : List (Nat × Nat)) (k R j : Nat) (q : Nat × Nat), l[j]? = some q → T.testBit (k + j) = true → (R.testBit q.1 = true ∨ R.testBit q.2 = true) → (rchL T l k R).testBit q.1 = true ∧ (rchL T l k R).testBit q.2 = true
  | [], _, _, _, _, h, _, _ => by cases h
  | p :: l, k, R, 0, q, h, ht, hr => by
    obtain rfl : p = q := by simpa using h
    unfold rchL
    rw [if_pos (by rw [Bool.and_eq_true, Bool.or_eq_true]; exact ⟨ht, hr⟩)]
    exact ⟨rchL_mono T l _ _ _ (by rw [or_bits]; simp), rchL_mono T l _ _ _ (by rw [or_bits]; simp)⟩
  | p :: l, k, R, j + 1, q, h, ht, hr => by
    unfold rchL
    refine rchL_hit T l (k + 1) _ j q (by rw [List.getElem?_cons_succ] at h; exact h) (by rw [show k + 1 + j = k + (j + 1) by omega]; exact ht) ?_
    split
    · exact hr.imp (fun e => by rw [or_bits, e]; rfl) (fun e => by rw [or_bits, e]; rfl)
    · exact hr
theorem sizE_mono {R S : Nat} (h : ∀ v, R.testBit v = true → S.testBit v = true) : ∀ n, sizE n R ≤ sizE n S
  | 0 => Nat.le_refl _
  | n + 1 => by
    have := sizE_mono h n
    rw [sizE_succ, sizE_succ]
    cases hb : R.testBit n
    · simp; omega
    · rw [h n hb]; simp; omega
theorem sizE_same {R S : Nat} (h : ∀ v, R.testBit v = true → S.testBit v = true) : ∀ n, sizE n R = sizE n S → ∀ v, v < n → S.testBit v = R.testBit v
  | 0, _, v, hv => by omega
  | n + 1, e, v, hv => by
    have hm := sizE_mono h n
    rw [sizE_succ, sizE_succ] at e
    cases hb : R.testBit n
    · rw [hb] at e
      cases hc : S.testBit n
      · rw [hc] at e
        rcases Nat.lt_or_ge v n with k | k
        · exact sizE_same h n (by simpa using e) v k
        · obtain rfl : v = n := by omega
          rw [hb, hc]
      · rw [hc] at e
        simp at e
        omega
    · rw [hb, h n hb] at e
      rcases Nat.lt_or_ge v n with k | k
      · exact sizE_same h n (by simpa using e) v k
      · obtain rfl : v = n := by omega
        rw [hb, h v hb]
section
variable {n T : Nat} (h7 : n ≤ 7)
include h7
theorem pairs_at {j : Nat} {q : Nat × Nat} (h : (pairsU n)[j]? = some q) : j < eN n ∧ edL n j = q := by
  have hl := eN_len n (by omega)
  have hj := (List.getElem?_eq_some_iff.1 h).1
  refine ⟨by omega, ?_⟩
  unfold edL
  rw [List.getD_eq_getElem?_getD, h]
  rfl
theorem at_pairs {j : Nat} (hj : j < eN n) : (pairsU n)[j]? = some (edL n j) := by
  have hl := eN_len n (by omega)
  unfold edL
  rw [List.getD_eq_getElem?_getD, List.getElem?_eq_getElem (by omega)]
  rfl
theorem edge_nb {j : Nat} (hj : j < eN n) (ht : T.testBit j = true) : (edL n j).2 ∈ nbE n T (edL n j).1 := by
  obtain ⟨a1, a2⟩ := edL_lt (n := n) h7 hj
  exact mem_nbE.2 ⟨by omega, a2, by omega, by rw [ed_ix h7 hj]; exact ht⟩
theorem rch_sound (P : Nat → Prop) (h0 : P 0) (hP : ∀ u v, P u → v ∈ nbE n T u → P v) : ∀ k v, (rchP n T k).testBit v = true → P v
  | 0, v, h => by
    have h : (1 : Nat).testBit v = true := h
    rw [show (1 : Nat) = 2 ^ 0 from rfl, Nat.testBit_two_pow, decide_eq_true_eq] at h
    subst h; exact h0
  | k + 1, v, h => by
    refine rchL_sound T P (pairsU n) 0 _ (rch_sound P h0 hP k) (fun j q hj ht hq => ?_) v h
    obtain ⟨k1, k2⟩ := pairs_at h7 hj
    rw [Nat.zero_add] at ht
    have hn := edge_nb h7 k1 ht
    rw [k2] at hn
    rcases hq with hq | hq
    · exact ⟨hq, hP _ _ hq hn⟩
    · exact ⟨hP _ _ hq (nbE_sym _ _ hn), hq⟩
theorem rch_lt (h0 : 0 < n) (k v : Nat) (h : (rchP n T k).testBit v = true) : v < n :=
  rch_sound h7 (fun v => v < n) h0 (fun _ _ _ hm => (mem_nbE.1 hm).2.1) k v h
theorem rch_grow (h0 : 0 < n) : ∀ k, rchP n T (k + 1) = rchP n T k ∨ k + 1 ≤ sizE n (rchP n T k)
  | 0 => by
    refine .inr ?_
    obtain ⟨m, rfl⟩ : ∃ m, n = m + 1 := ⟨n - 1, by omega⟩
    refine Nat.pos_of_ne_zero fun e => ?_
    have h1 := sizE_zero.1 e 0 (by omega)
    have h2 : Nat.testBit 1 0 = false := h1
    exact absurd h2 (by decide)
  | k + 1 => by
    rcases rch_grow h0 k with h | h
    · refine .inl ?_
      show rchL T (pairsU n) 0 (rchP n T (k + 1)) = _
      rw [h]
      exact h
    · by_cases e : rchP n T (k + 2) = rchP n T (k + 1)
      · exact .inl e
      · refine .inr ?_
        have hm : ∀ v, (rchP n T k).testBit v = true → (rchP n T (k + 1)).testBit v = true := fun v hv => rchL_mono T _ 0 _ v hv
        have h1 := sizE_mono hm n
        rcases Nat.lt_or_ge (sizE n (rchP n T k)) (sizE n (rchP n T (k + 1))) with hlt | hge
        · omega
        · exfalso
          have hs := sizE_same hm n (by omega)
          have he : rchP n T (k + 1) = rchP n T k := Nat.eq_of_testBit_eq fun v => by
            rcases Nat.lt_or_ge v n with hv | hv
            · exact hs v hv
            · have x1 : (rchP n T (k + 1)).testBit v = false := by
                cases hb : (rchP n T (k + 1)).testBit v
                · rfl
                · have := rch_lt h7 h0 _ _ hb; omega
              have x2 : (rchP n T k).testBit v = false := by
                cases hb : (rchP n T k).testBit v
                · rfl
                · have := rch_lt h7 h0 _ _ hb; omega
              rw [x1, x2]
          refine e ?_
          show rchL T (pairsU n) 0 (rchP n T (k + 1)) = _
          rw [he]
          exact he
theorem rch_fix (h0 : 0 < n) : rchP n T (n + 1) = rchP n T n := by
  rcases rch_grow (T := T) h7 h0 n with h | h
  · exact h
  · have := sizE_le (rchP n T n) n
    omega
theorem rch_all (h0 : 0 < n) : ∀ {d v : Nat}, Wk (nbE n T) 0 d v → (rchP n T n).testBit v = true
  | 0, v, h => by
    have h : v = 0 := h
    subst h
    have : ∀ k, (rchP n T k).testBit 0 = true := fun k => by
      induction k with
      | zero => exact (by decide : Nat.testBit 1 0 = true)
      | succ k ih => exact rchL_mono T _ 0 _ 0 ih
    exact this n
  | d + 1, v, h => by
    obtain ⟨u, h1, h2⟩ := h
    have hu := rch_all h0 h1
    obtain ⟨k1, k2, k3, k4⟩ := mem_nbE.1 h2
    rw [← rch_fix h7 h0]
    show (rchL T (pairsU n) 0 (rchP n T n)).testBit v = true
    rcases Nat.lt_or_gt_of_ne k3 with hl | hl
    · obtain ⟨e1, e2⟩ := ix_ed h7 hl k2
      have := rchL_hit T (pairsU n) 0 (rchP n T n) (ixN n u v) (u, v) (by rw [at_pairs h7 e2, e1]) (by rw [Nat.zero_add]; exact k4) (.inl hu)
      exact this.2
    · obtain ⟨e1, e2⟩ := ix_ed h7 hl k1
      rw [ix_swap] at k4
      have := rchL_hit T (pairsU n) 0 (rchP n T n) (ixN n v u) (v, u) (by rw [at_pairs h7 e2, e1]) (by rw [Nat.zero_add]; exact k4) (.inr hu)
      exact this.1
theorem con_iff (h0 : 0 < n) : conB n T = true ↔ ∀ v, v < n → ∃ d, Wk (nbE n T) 0 d v := by
  unfold conB
  rw [beq_iff_eq]
  constructor
  · intro h v hv
    refine rch_sound (T := T) h7 (fun v => ∃ d, Wk (nbE n T) 0 d v) ⟨0, rfl⟩ (fun u v ⟨d, hd⟩ hm => ⟨d + 1, u, hd, hm⟩) n v ?_
    rw [h, Nat.testBit_two_pow_sub_one]
    exact decide_eq_true hv
  · intro h
    refine Nat.eq_of_testBit_eq fun v => ?_
    rw [Nat.testBit_two_pow_sub_one]
    rcases Nat.lt_or_ge v n with hv | hv
    · obtain ⟨d, hd⟩ := h v hv
      rw [rch_all h7 h0 hd, decide_eq_true hv]
    · rw [decide_eq_false (by omega)]
      cases hb : (rchP n T n).testBit v
      · rfl
      · have := rch_lt h7 h0 _ _ hb; omega
end
section
variable {n T : Nat} {p r : Nat → Nat} (h7 : n ≤ 7) (hp : Ren n p r)
include h7 hp
end
end Go.Proofs.YtinlnafkmoabbaaDoor.Sg
/- How many plane trees, paths, polygons and matchings order signs have. Plain mathematics. -/
namespace Go.Proofs.YtinlnafkmoabbaaDoor.Sg
theorem asc_nodup {L : List Nat} (h : L.Pairwise (· < ·)) : L.Nodup := h.imp fun h => Nat.ne_of_lt h
/-- The plane sets of m edges of a kind. -/
def kindL (c : Nat → Nat) (n m : Nat) (Q : Nat → Bool) : List Nat := (plT c (eN n) m 0).filter Q
end Go.Proofs.YtinlnafkmoabbaaDoor.Sg
/- The degrees of a set of edges: their sum. Plain mathematics. -/
namespace Go.Proofs.YtinlnafkmoabbaaDoor.Sg
theorem sum_addL (f g : Nat → Nat) : ∀ L : List Nat, (L.map fun i => f i + g i).sum = (L.map f).sum + (L.map g).sum
  | [] => rfl
  | a :: l => by
    have := sum_addL f g l
    simp only [List.map_cons, List.sum_cons]
    omega
theorem sum_ifs (q : Nat → Bool) : ∀ L : List Nat, (L.map fun i => if q i = true then 1 else 0).sum = L.countP q
  | [] => rfl
  | a :: l => by
    have := sum_ifs q l
    rw [List.map_cons, List.sum_cons, List.countP_cons, this]
    omega
theorem two_ends : ((List.range 8).all fun n => (List.range n).all fun b => (List.range b).all fun a => (List.range n).countP (fun i => a == i || b == i) == 2) = true := by decide +kernel
theorem deg_sum {n : Nat} (h7 : n ≤ 7) (T : Nat) : ∀ K, K ≤ eN n → ((List.range n).map fun i => sizE K (T &&& incM n i)).sum = 2 * sizE K T
  | 0, _ => by
    have : ∀ L : List Nat, (L.map fun i => sizE 0 (T &&& incM n i)).sum = 0 := fun L => by
      induction L with
      | nil => rfl
      | cons a l ih => rw [List.map_cons, List.sum_cons, ih]; rfl
    rw [this]
    rfl
  | K + 1, hK => by
    have ih := deg_sum h7 T K (by omega)
    have e : (fun i => sizE (K + 1) (T &&& incM n i)) = fun i => sizE K (T &&& incM n i) + (if (T &&& incM n i).testBit K = true then 1 else 0) := by
      funext i
      exact sizE_succ K _
    rw [e, sum_addL, ih, sum_ifs (fun i => (T &&& incM n i).testBit K), sizE_succ]
    obtain ⟨a1, a2⟩ := edL_lt (n := n) h7 (k := K) (by omega)
    have h2 := eq_of_beq (List.all_eq_true.1 (List.all_eq_true.1 (List.all_eq_true.1 two_ends n (List.mem_range.2 (by omega))) (edL n K).2 (List.mem_range.2 a2)) (edL n K).1 (List.mem_range.2 a1))
    cases hb : T.testBit K
    · have : (List.range n).countP (fun i => (T &&& incM n i).testBit K) = 0 := by
        rw [List.countP_eq_zero]
        intro i _ hi
        rw [Nat.testBit_and, hb] at hi
        cases hi
      rw [this]
      simp
    · have : (List.range n).countP (fun i => (T &&& incM n i).testBit K) = 2 := by
        refine Eq.trans (List.countP_congr fun i _ => ?_) h2
        rw [Nat.testBit_and, hb, inc_bit, decide_eq_true (show K < eN n by omega), Bool.true_and, Bool.true_and]
      rw [this]
      simp
      omega
theorem deg_total {n : Nat} (h7 : n ≤ 7) (T : Nat) : ((List.range n).map (dgN n T)).sum = 2 * sizE (eN n) T := deg_sum h7 T (eN n) (Nat.le_refl _)
end Go.Proofs.YtinlnafkmoabbaaDoor.Sg
