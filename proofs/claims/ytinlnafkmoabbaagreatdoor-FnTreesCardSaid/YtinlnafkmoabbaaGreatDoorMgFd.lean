/- Several texts in one: FtFacts, FtiMath. -/
import Derived.Test.YtinlnafkmoabbaaGreatDoorMgFb
import Derived.Test.YtinlnafkmoabbaaGreatDoorMgTw
import Derived.Test.YtinlnafkmoabbaaGreatDoorMgK
import Derived.Test.YtinlnafkmoabbaaGreatDoorMgTf
/- What FnTrees asks of the answers: plane, of the right sizes, as many as there should be. -/
namespace Go.Proofs.YtinlnafkmoabbaaGreatDoor.Sg
open Go.RowKit Pt NewI
section
variable {n : Nat} {s : List UInt8}
theorem crE_crG (h : aciB n s = true) {x y : Nat} (hx : x < eN n) (hy : y < eN n) : crE (sgnF (lookS n s)) n (x, y) = crG (sgS n s) n x y := by
  have e := congrArg (fun S => S.testBit y) (crS_crC h hx)
  unfold crS crC at e
  rw [setN_bit, setN_bit, decide_eq_true hy, Bool.true_and, Bool.true_and] at e
  exact e
theorem plane0 (h : aciB n s = true) {U : Nat} (hU : U < 2 ^ eN n) (hp : PlF (sgS n s) n U) : cpZ n s U = 0 := by
  rw [cp_in h U hU]
  unfold prN
  rw [List.countP_eq_zero.2 fun p hp' hc => ?_]
  · rfl
  · obtain ⟨h2, h1⟩ := mem_idxs.1 hp'
    unfold crP at hc
    rw [Bool.and_eq_true, Bool.and_eq_true] at hc
    obtain ⟨⟨c1, c2⟩, c3⟩ := hc
    have h3 : crE (sgnF (lookS n s)) n (p.1, p.2) = true := c3
    rw [crE_crG h h1 (by omega), hp p.1 h1 p.2 (by omega) c1 c2] at h3
    cases h3
theorem kind_mem (h : aciB n s = true) {U m : Nat} {Q : Nat → Bool} (hU : U ∈ kindL (cS n s) n m Q) : U < 2 ^ eN n ∧ sizE (eN n) U = m ∧ cpZ n s U = 0 ∧ Q U = true := by
  have h7 := (aciB_n h).2
  obtain ⟨a, b, c, d⟩ := (mem_kind (G := sgS n s) (by omega) (omA_sgn h).om).1 hU
  exact ⟨a, b, plane0 h a c, d⟩
end
theorem set_in {n : Int} {s : List UInt8} {size least most : Nat} {conn : Bool} {U : Nat} (hU : U ∈ setZ n s size least most conn) : ∃ m : Nat, n = m ∧ aciB m s = true ∧ 3 ≤ m ∧ m ≤ 6 ∧ U ∈ setsL (cS m s) m size least most conn := by
  unfold setZ at hU
  split at hU
  · rename_i hf
    obtain ⟨h, h6⟩ := fitB_n hf
    obtain ⟨h3, -⟩ := aciB_n h
    obtain ⟨m, rfl⟩ : ∃ m : Nat, n = m := ⟨n.toNat, by omega⟩
    rw [Int.toNat_natCast] at hU
    exact ⟨m, rfl, h, by omega, by omega, hU⟩
  · cases hU
theorem eN_21 {m : Nat} (h6 : m ≤ 6) : eN m ≤ 21 ∧ 2 ^ eN m ≤ 2097152 := by
  have := eN_bd m (by omega)
  exact ⟨this, Nat.pow_le_pow_right (n := 2) (by omega) this⟩
theorem tree_fact {n : Int} {s : List UInt8} {U : Nat} (hU : U ∈ treeZ n s) : U < 2097152 ∧ trB n U = true ∧ cpZ n s U = 0 ∧ ((zl (degZ n U)).sum : Int) = 2 * n - 2 := by
  obtain ⟨m, rfl, h, h3, h6, hin⟩ := set_in hU
  rw [Int.toNat_natCast, sets_con] at hin
  obtain ⟨a, b, c, d⟩ := kind_mem h hin
  obtain ⟨e1, e2⟩ := eN_21 h6
  obtain ⟨K, hK, -, hK2⟩ := allZ_nat6 (n := m) h3 h6
  have i1 : inB (m : Int) 3 7 = true := inB_yes (by omega) (by omega)
  have i2 : inB (U : Int) 0 (allZ m) = true := by rw [hK]; exact inB_yes (by omega) (by omega)
  refine ⟨by omega, ?_, c, ?_⟩
  · unfold trB
    rw [i1, i2, Int.toNat_natCast, Int.toNat_natCast, size_szF e1 a, b, decide_eq_true (by omega)]
    rw [Bool.and_eq_true] at d
    rw [d.2]
    rfl
  · unfold degZ
    rw [if_pos ⟨i1, i2⟩, Int.toNat_natCast, Int.toNat_natCast]
    have hs := deg_total (n := m) (by omega) U
    rw [b] at hs
    have hz : ∀ L : List Nat, (zl L).sum = ((L.sum : Nat) : Int) := fun L => by
      induction L with
      | nil => rfl
      | cons x L ih =>
        show (x : Int) + (zl L).sum = _
        rw [ih, List.sum_cons]
        omega
    rw [hz]
    unfold degL
    rw [hs]
    omega
theorem path_tree {n : Int} {s : List UInt8} {U : Nat} (hU : U ∈ pathZ n s) : U ∈ treeZ n s := by
  obtain ⟨m, rfl, h, h3, h6, hin⟩ := set_in hU
  rw [Int.toNat_natCast, sets_con] at hin
  have hf : Sg.fitB (m : Int) s = true := by unfold Sg.fitB; rw [h, decide_eq_true (show (m : Int) ≤ 6 by omega)]; rfl
  unfold treeZ setZ
  rw [if_pos hf, Int.toNat_natCast, sets_con]
  unfold kindL at hin ⊢
  rw [List.mem_filter] at hin ⊢
  refine ⟨hin.1, ?_⟩
  have h2 := hin.2
  rw [Bool.and_eq_true] at h2 ⊢
  refine ⟨?_, h2.2⟩
  have h3 := h2.1
  unfold fineB at h3 ⊢
  rw [List.all_eq_true] at h3 ⊢
  intro i hi
  have := h3 i hi
  rw [Bool.and_eq_true, decide_eq_true_eq, decide_eq_true_eq] at this ⊢
  omega
theorem ring_fact {n : Int} {s : List UInt8} {U : Nat} (hU : U ∈ ringZ n s) : U < 2097152 ∧ ((szF 21 U : Nat) : Int) = n ∧ cpZ n s U = 0 := by
  obtain ⟨m, rfl, h, h3, h6, hin⟩ := set_in hU
  rw [Int.toNat_natCast, sets_con] at hin
  obtain ⟨a, b, c, -⟩ := kind_mem h hin
  obtain ⟨e1, e2⟩ := eN_21 h6
  exact ⟨by omega, by rw [size_szF e1 a, b], c⟩
theorem pair_fact {n : Int} {s : List UInt8} {U : Nat} (hU : U ∈ pairZ n s) : U < 2097152 ∧ 2 * ((szF 21 U : Nat) : Int) = n ∧ cpZ n s U = 0 := by
  unfold pairZ at hU
  split at hU
  · rename_i h2
    obtain ⟨m, rfl, h, h3, h6, hin⟩ := set_in hU
    rw [sets_any] at hin
    obtain ⟨a, b, c, -⟩ := kind_mem h hin
    obtain ⟨e1, e2⟩ := eN_21 h6
    have t1 := Int.tdiv_eq_ediv_of_nonneg (a := (m : Int)) (b := 2) (by omega)
    have t2 := Int.tmod_eq_emod_of_nonneg (a := (m : Int)) (b := 2) (by omega)
    exact ⟨by omega, by rw [size_szF e1 a, b]; omega, c⟩
  · cases hU
theorem set_len (n : Int) (s : List UInt8) (size least most : Nat) (conn : Bool) : (setZ n s size least most conn).length ≤ 32768 := by
  unfold setZ
  split
  · rename_i hf
    obtain ⟨h, h6⟩ := fitB_n hf
    obtain ⟨h3, -⟩ := aciB_n h
    have hE : eN n.toNat ≤ 15 := by
      have : ∀ m, m ≤ 6 → eN m ≤ 15 := by decide
      exact this _ (by omega)
    have h1 := plT_len (cS n.toNat s) (eN n.toNat) size 0
    have h2 := List.length_filter_le (setQ n.toNat least most conn) (plT (cS n.toNat s) (eN n.toNat) size 0)
    have h3 := Nat.pow_le_pow_right (n := 2) (by omega) hE
    unfold setsL
    omega
  · simp
theorem tree_no {n : Int} {s : List UInt8} (h : (aciB n s && decide (n ≤ 6)) = false) : treeZ n s = [] := by
  have hf : Sg.fitB n s = false := by unfold Sg.fitB; rw [Bool.and_comm]; exact h
  unfold treeZ setZ
  rw [hf]
  rfl
/-- As many as there should be. -/
theorem many_fact {n : Nat} {s : List UInt8} (h : aciB n s = true) (h6 : n ≤ 6) :
    0 < (ringZ n s).length ∧ n ≤ (pathZ n s).length ∧ (decide (0 < (pairZ n s).length) = decide (n % 2 = 0)) ∧
    (cvxB n s = true → (ringZ n s).length = 1 ∧ (treeZ n s).length = trN n ∧ (pathZ n s).length = paN n) := by
  obtain ⟨h3, -⟩ := aciB_n h
  have hf : Sg.fitB (n : Int) s = true := by unfold Sg.fitB; rw [h, decide_eq_true (show (n : Int) ≤ 6 by omega)]; rfl
  have N := fts_main h h6
  have e : ∀ (sz l m : Nat), setZ (n : Int) s sz l m true = kindL (crC (sgS n s) n) n sz (fun T => fineB n l m T && conB n T) := fun sz l m => by
    unfold setZ
    rw [if_pos hf, Int.toNat_natCast, sets_con]
    rfl
  have eR : ringZ n s = kindL (crC (sgS n s) n) n n (qRing n) := by unfold ringZ; rw [e, Int.toNat_natCast]; rfl
  have eP : pathZ n s = kindL (crC (sgS n s) n) n (n - 1) (qPath n) := by unfold pathZ; rw [e, Int.toNat_natCast]; rfl
  have eT : treeZ n s = kindL (crC (sgS n s) n) n (n - 1) (qTree n) := by unfold treeZ; rw [e, Int.toNat_natCast]; rfl
  have t1 := Int.tdiv_eq_ediv_of_nonneg (a := (n : Int)) (b := 2) (by omega)
  have t2 := Int.tmod_eq_emod_of_nonneg (a := (n : Int)) (b := 2) (by omega)
  refine ⟨by rw [eR]; exact N.ring, by rw [eP]; exact N.path, ?_, fun hc => ?_⟩
  · by_cases h2 : n % 2 = 0
    · have eM : pairZ n s = kindL (crC (sgS n s) n) n (n / 2) (qPair n) := by
        unfold pairZ
        rw [if_pos (by omega), show (Int.tdiv (n : Int) 2).toNat = n / 2 by omega]
        unfold setZ
        rw [if_pos hf, Int.toNat_natCast, sets_any]
        rfl
      rw [eM, decide_eq_true (N.pair h2), decide_eq_true h2]
    · have eM : pairZ n s = [] := by unfold pairZ; rw [if_neg (by omega)]
      rw [eM, decide_eq_false h2]
      rfl
  · unfold cvxB at hc
    rw [Bool.and_eq_true, beq_iff_eq] at hc
    have hh : hulG (sgS n s) n = n := by have := hul_hsz h; omega
    exact ⟨by rw [eR]; exact N.cnvR hh, by rw [eT]; exact N.cnvT hh, by rw [eP]; exact N.cnvP hh⟩
end Go.Proofs.YtinlnafkmoabbaaGreatDoor.Sg
/- Plane sets as impl tells them: what a search of one round less reaches, degrees, the lists. Plain mathematics. -/
namespace Go.Proofs.YtinlnafkmoabbaaGreatDoor.Sg
open Pt
theorem sizE_full {R : Nat} : ∀ n, n ≤ sizE n R → ∀ v, v < n → R.testBit v = true
  | 0, _, v, hv => by omega
  | n + 1, e, v, hv => by
    have hl := sizE_le R n
    rw [sizE_succ] at e
    cases hb : R.testBit n
    · rw [hb] at e
      simp at e
      omega
    · rcases Nat.lt_or_ge v n with k | k
      · exact sizE_full n (by rw [hb] at e; simp at e; omega) v k
      · obtain rfl : v = n := by omega
        exact hb
theorem rch_bits {n T : Nat} (h7 : n ≤ 7) (h0 : 0 < n) {k : Nat} (h : ∀ v, v < n → (rchP n T k).testBit v = true) : rchP n T k = 2 ^ n - 1 := by
  refine Nat.eq_of_testBit_eq fun v => ?_
  rw [Nat.testBit_two_pow_sub_one]
  rcases Nat.lt_or_ge v n with hv | hv
  · rw [h v hv, decide_eq_true hv]
  · rw [decide_eq_false (by omega)]
    cases hb : (rchP n T k).testBit v
    · rfl
    · have := rch_lt h7 h0 _ _ hb; omega
/-- One round less is enough. -/
theorem con_prev {n T : Nat} (h7 : n ≤ 7) (h0 : 0 < n) : (rchP n T (n - 1) == 2 ^ n - 1) = conB n T := by
  obtain ⟨m, rfl⟩ : ∃ m, n = m + 1 := ⟨n - 1, by omega⟩
  rw [Nat.add_sub_cancel]
  unfold conB
  rcases rch_grow (T := T) h7 h0 m with h | h
  · rw [h]
  · have hf := sizE_full (m + 1) h
    have e1 := rch_bits h7 h0 hf
    have e2 := rch_bits (k := m + 1) h7 h0 (fun v hv => rchL_mono T _ 0 _ v (hf v hv))
    rw [e1, e2]
theorem inc_few : ((List.range 8).all fun n => (List.range n).all fun i => decide (sizE (eN n) (incM n i) ≤ 6)) = true := by decide +kernel
theorem dg_few {n : Nat} (h7 : n ≤ 7) (T : Nat) {i : Nat} (hi : i < n) : dgN n T i ≤ 6 := by
  have h := of_decide_eq_true (List.all_eq_true.1 (List.all_eq_true.1 inc_few n (List.mem_range.2 (by omega))) i (List.mem_range.2 hi))
  refine Nat.le_trans (sizE_mono (fun v hv => ?_) _) h
  rw [Nat.testBit_and, Bool.and_eq_true] at hv
  exact hv.2
theorem wk_last {nb : Nat → List Nat} {a b : Nat} (hab : a ≠ b) : ∀ {d : Nat}, Wk nb a d b → ∃ u, b ∈ nb u
  | 0, h => by
    have h : b = a := h
    exact absurd h.symm hab
  | d + 1, h => by
    obtain ⟨u, -, h2⟩ := h
    exact ⟨u, h2⟩
theorem dg_pos {n T i u : Nat} (h7 : n ≤ 7) (h : i ∈ nbE n T u) : 1 ≤ dgN n T i := by
  obtain ⟨h1, h2, h3, h4⟩ := mem_nbE.1 h
  refine Nat.pos_of_ne_zero fun e => ?_
  unfold dgN at e
  have hz := sizE_zero.1 e
  rcases Nat.lt_or_gt_of_ne h3 with hl | hl
  · obtain ⟨e1, e2⟩ := ix_ed h7 hl h2
    have := hz _ e2
    rw [Nat.testBit_and, h4, inc_bit, decide_eq_true e2, e1] at this
    simp at this
  · rw [ix_swap] at h4
    obtain ⟨e1, e2⟩ := ix_ed h7 hl h1
    have := hz _ e2
    rw [Nat.testBit_and, h4, inc_bit, decide_eq_true e2, e1] at this
    simp at this
/-- Connected elements have edges. -/
theorem con_fine {n T : Nat} (h2 : 2 ≤ n) (h7 : n ≤ 7) (h : conB n T = true) : fineB n 1 6 T = true := by
  have hc := (con_iff h7 (by omega)).1 h
  unfold fineB
  rw [List.all_eq_true]
  intro i hi
  have hi := List.mem_range.1 hi
  rw [Bool.and_eq_true, decide_eq_true_eq, decide_eq_true_eq]
  refine ⟨?_, dg_few h7 T hi⟩
  by_cases h0 : i = 0
  · subst h0
    obtain ⟨d, hd⟩ := hc 1 (by omega)
    obtain ⟨u, hu⟩ := wk_last (by omega) (wk_rev nbE_sym hd)
    exact dg_pos h7 hu
  · obtain ⟨d, hd⟩ := hc i hi
    obtain ⟨u, hu⟩ := wk_last (by omega) hd
    exact dg_pos h7 hu
theorem fine_sum {n T d : Nat} (h7 : n ≤ 7) (h : fineB n d d T = true) : 2 * sizE (eN n) T = d * n := by
  rw [← deg_total h7 T]
  have e : (List.range n).map (dgN n T) = (List.range n).map fun _ => d := by
    refine List.map_congr_left fun i hi => ?_
    unfold fineB at h
    have := List.all_eq_true.1 h i hi
    rw [Bool.and_eq_true, decide_eq_true_eq, decide_eq_true_eq] at this
    omega
  rw [e, List.map_const', List.length_range, List.sum_replicate_nat]
  exact Nat.mul_comm _ _
/-- All degrees of a set, as impl asks for them. -/
def alD (q : Nat → Bool) (n T : Nat) : Bool := (List.range n).all fun i => q (dgN n T i)
theorem alD_le {n T : Nat} (h : fineB n 1 6 T = true) : alD (fun x => decide (x ≤ 2)) n T = fineB n 1 2 T := by
  unfold fineB at h
  rw [List.all_eq_true] at h
  unfold alD fineB
  refine all_congr' fun i hi => ?_
  have := h i hi
  rw [Bool.and_eq_true, decide_eq_true_eq, decide_eq_true_eq] at this
  rw [decide_eq_true this.1, Bool.true_and]
theorem alD_eq (n T d : Nat) : alD (fun x => x == d) n T = fineB n d d T := by
  unfold alD fineB
  refine all_congr' fun i _ => ?_
  rw [Bool.eq_iff_iff, beq_iff_eq, Bool.and_eq_true, decide_eq_true_eq, decide_eq_true_eq]
  omega
/-- Sets of which no edge crosses another, as impl tells them. -/
def plU (c : Nat → Nat) (E U : Nat) : Bool := (U ^^^ (U &&& uncN c E U)) == 0
theorem plU_iff (c : Nat → Nat) {E U : Nat} (hU : U < 2 ^ E) : plU c E U = true ↔ ∀ x, x < E → U.testBit x = true → ∀ z, U.testBit z = true → (c x).testBit z = false := by
  unfold plU
  rw [beq_iff_eq]
  constructor
  · intro h x hx bx z bz
    have e : (U ^^^ (U &&& uncN c E U)).testBit x = false := by rw [h, Nat.zero_testBit]
    rw [Nat.testBit_xor, Nat.testBit_and, unc_bit, bx, decide_eq_true hx, Bool.true_and, Bool.true_and] at e
    cases hc : (c x &&& U == 0)
    · rw [hc] at e; cases e
    · exact and_zero_iff.1 hc z bz
  · intro h
    refine Nat.eq_of_testBit_eq fun x => ?_
    rw [Nat.zero_testBit, Nat.testBit_xor, Nat.testBit_and, unc_bit]
    cases bx : U.testBit x
    · rfl
    · have hx : x < E := by
        refine Classical.byContradiction fun hn => ?_
        rw [bits_of_lt hU x (by omega)] at bx
        cases bx
      rw [decide_eq_true hx, and_zero_iff.2 (h x hx bx)]
      rfl
theorem plU_pl {n : Nat} {s : List UInt8} (h : aciB n s = true) {U : Nat} (hU : U < 2 ^ eN n) : plU (cS n s) (eN n) U = true ↔ Pl (cS n s) (eN n) U := by
  rw [plU_iff _ hU]
  have hlt : ∀ z, U.testBit z = true → z < eN n := fun z bz => by
    refine Classical.byContradiction fun hn => ?_
    rw [bits_of_lt hU z (by omega)] at bz
    cases bz
  constructor
  · intro k y hy by' z _ bz
    exact k y hy by' z bz
  · intro k x hx bx z bz
    have hz := hlt z bz
    rcases Nat.lt_trichotomy x z with l | l | l
    · exact k x hx bx z l bz
    · subst l; exact cS_self x
    · rw [cS_sym h x z hx hz]
      exact k z hz bz x l bx
/-- The wanted sets ahead of T, the empty one left out. -/
def plTo (p : Nat → Bool) (T : Nat) : List Nat := (List.range T).filter fun U => U != 0 && p U
theorem plTo_succ (p : Nat → Bool) {T : Nat} (h : 0 < T) : plTo p (T + 1) = plTo p T ++ if p T = true then [T] else [] := by
  unfold plTo
  have h0 : (T != 0) = true := by rw [bne_iff_ne]; omega
  rw [List.range_succ, List.filter_append]
  congr 1
  cases hp : p T
  · simp [hp]
  · simp [hp, h0]
theorem plTo_len (p : Nat → Bool) (T : Nat) : (plTo p T).length ≤ T := by
  have := List.length_filter_le (fun U => U != 0 && p U) (List.range T)
  rw [List.length_range] at this
  exact this
theorem plTo_kind {c : Nat → Nat} {n m : Nat} {Q p : Nat → Bool} (h : ∀ U, U < 2 ^ eN n → ((U ≠ 0 ∧ p U = true) ↔ (sizE (eN n) U = m ∧ Pl c (eN n) U ∧ Q U = true))) : plTo p (2 ^ eN n) = kindL c n m Q := by
  have ha : (plTo p (2 ^ eN n)).Pairwise (· < ·) := List.pairwise_lt_range.filter _
  have hb : (kindL c n m Q).Pairwise (· < ·) := (asc_plT (eN n) m 0 fun y _ => Nat.zero_testBit y).filter _
  refine List.Perm.eq_of_pairwise (le := fun a b => a < b) (fun a b _ _ h1 h2 => by omega) ha hb ?_
  refine (List.perm_ext_iff_of_nodup (asc_nodup ha) (asc_nodup hb)).2 fun U => ?_
  unfold plTo kindL
  rw [List.mem_filter, List.mem_range, List.mem_filter, mem_pl, Bool.and_eq_true, bne_iff_ne]
  constructor
  · rintro ⟨h1, h2⟩
    obtain ⟨a, b, d⟩ := (h U h1).1 h2
    exact ⟨⟨h1, a, b⟩, d⟩
  · rintro ⟨⟨h1, a, b⟩, d⟩
    exact ⟨h1, (h U h1).2 ⟨a, b, d⟩⟩
theorem size_zeroE (E : Nat) : sizE E 0 = 0 := sizE_zero.2 fun y _ => Nat.zero_testBit y
theorem trB_in {n U : Nat} (h3 : 3 ≤ n) (h6 : n ≤ 6) (hU : U < 2 ^ eN n) : trB n U = (decide (sizE (eN n) U = n - 1) && conB n U) := by
  obtain ⟨e1, e2⟩ := eN_21 h6
  obtain ⟨K, hK, -, hK2⟩ := allZ_nat6 (n := n) h3 h6
  unfold trB
  rw [inB_yes (show (3 : Int) ≤ n by omega) (by omega), hK, inB_yes (show (0 : Int) ≤ U by omega) (by omega), Int.toNat_natCast, Int.toNat_natCast, size_szF e1 hU, Bool.true_and, Bool.true_and]
  congr 1
  rw [Bool.eq_iff_iff, decide_eq_true_eq, decide_eq_true_eq]
  omega
section
variable {n : Nat} {s : List UInt8} (h : aciB n s = true) (h6 : n ≤ 6)
include h h6
theorem set_kind (size least most : Nat) : setZ n s size least most true = kindL (cS n s) n size (fun T => fineB n least most T && conB n T) := by
  have hf : Sg.fitB (n : Int) s = true := by unfold Sg.fitB; rw [h, decide_eq_true (show (n : Int) ≤ 6 by omega)]; rfl
  unfold setZ
  rw [if_pos hf, Int.toNat_natCast, sets_con]
theorem set_kind' (size least most : Nat) : setZ n s size least most false = kindL (cS n s) n size (fun T => fineB n least most T) := by
  have hf : Sg.fitB (n : Int) s = true := by unfold Sg.fitB; rw [h, decide_eq_true (show (n : Int) ≤ 6 by omega)]; rfl
  unfold setZ
  rw [if_pos hf, Int.toNat_natCast, sets_any]
theorem tree_list : plTo (fun U => plU (cS n s) (eN n) U && trB n U) (2 ^ eN n) = treeZ n s := by
  obtain ⟨h3, -⟩ := aciB_n h
  unfold treeZ
  rw [set_kind h h6]
  refine plTo_kind fun U hU => ?_
  rw [Bool.and_eq_true, plU_pl h hU, trB_in (by omega) h6 hU, Bool.and_eq_true, Bool.and_eq_true, decide_eq_true_eq]
  constructor
  · rintro ⟨-, h1, h2, k3⟩
    exact ⟨by omega, h1, con_fine (by omega) (by omega) k3, k3⟩
  · rintro ⟨h1, h2, k3, k4⟩
    refine ⟨fun e => ?_, h2, by omega, k4⟩
    subst e
    rw [size_zeroE] at h1
    omega
theorem path_list : plTo (fun U => plU (cS n s) (eN n) U && (trB n U && alD (fun x => decide (x ≤ 2)) n U)) (2 ^ eN n) = pathZ n s := by
  obtain ⟨h3, -⟩ := aciB_n h
  unfold pathZ
  rw [set_kind h h6]
  refine plTo_kind fun U hU => ?_
  rw [Bool.and_eq_true, plU_pl h hU, Bool.and_eq_true, trB_in (by omega) h6 hU, Bool.and_eq_true, Bool.and_eq_true, decide_eq_true_eq]
  constructor
  · rintro ⟨-, h1, ⟨h2, k3⟩, k4⟩
    rw [alD_le (con_fine (by omega) (by omega) k3)] at k4
    exact ⟨by omega, h1, k4, k3⟩
  · rintro ⟨h1, h2, k3, k4⟩
    refine ⟨fun e => ?_, h2, ⟨by omega, k4⟩, by rw [alD_le (con_fine (by omega) (by omega) k4)]; exact k3⟩
    subst e
    rw [size_zeroE] at h1
    omega
theorem ring_list : plTo (fun U => plU (cS n s) (eN n) U && (alD (fun x => x == 2) n U && conB n U)) (2 ^ eN n) = ringZ n s := by
  obtain ⟨h3, -⟩ := aciB_n h
  unfold ringZ
  rw [set_kind h h6]
  refine plTo_kind fun U hU => ?_
  rw [Bool.and_eq_true, plU_pl h hU, Bool.and_eq_true, alD_eq, Bool.and_eq_true, Int.toNat_natCast]
  constructor
  · rintro ⟨-, h1, h2, k3⟩
    have := fine_sum (by omega) h2
    exact ⟨by omega, h1, h2, k3⟩
  · rintro ⟨h1, h2, k3, k4⟩
    refine ⟨fun e => ?_, h2, k3, k4⟩
    subst e
    rw [size_zeroE] at h1
    omega
theorem pair_list : plTo (fun U => plU (cS n s) (eN n) U && alD (fun x => x == 1) n U) (2 ^ eN n) = pairZ n s := by
  obtain ⟨h3, -⟩ := aciB_n h
  have t1 := Int.tdiv_eq_ediv_of_nonneg (a := (n : Int)) (b := 2) (by omega)
  have t2 := Int.tmod_eq_emod_of_nonneg (a := (n : Int)) (b := 2) (by omega)
  unfold pairZ
  split
  · rename_i h2
    rw [set_kind' h h6, show (Int.tdiv (n : Int) 2).toNat = n / 2 by omega]
    refine plTo_kind fun U hU => ?_
    rw [Bool.and_eq_true, plU_pl h hU, alD_eq]
    constructor
    · rintro ⟨-, h1, k2⟩
      have := fine_sum (by omega) k2
      exact ⟨by omega, h1, k2⟩
    · rintro ⟨h1, k2, k3⟩
      refine ⟨fun e => ?_, k2, k3⟩
      subst e
      rw [size_zeroE] at h1
      omega
  · rename_i h2
    unfold plTo
    rw [List.filter_eq_nil_iff]
    intro U hU hc
    rw [Bool.and_eq_true, Bool.and_eq_true, alD_eq] at hc
    have := fine_sum (by omega) hc.2.2
    omega
end
end Go.Proofs.YtinlnafkmoabbaaGreatDoor.Sg
