/- Several texts in one: LeOnes, TiMath, TiElt, TiUnc. -/
import Derived.Test.YtinlnafkmoabbaaGreatDoorMgE
import Derived.Test.YtinlnafkmoabbaaGreatDoorMgM
import Derived.Test.YtinlnafkmoabbaaGreatDoorMgTw
import Derived.Test.YtinlnafkmoabbaaGreatDoorMgKs
/- math/bits.OnesCount of small sets. -/
namespace Go.Proofs.YtinlnafkmoabbaaGreatDoor.Sg
open Go.RowKit Pt NewI
/-- The steps of OnesCount64. -/
def oc1 (x : Nat) : Nat := (x / 2 &&& 6148914691236517205) + (x &&& 6148914691236517205)
def oc2 (y : Nat) : Nat := (y / 4 &&& 3689348814741910323) + (y &&& 3689348814741910323)
def oc3 (y : Nat) : Nat := (y / 16 + y) &&& 1085102592571150095
end Go.Proofs.YtinlnafkmoabbaaGreatDoor.Sg
/- Full sets of edges, as impl tells them: by the edges that none of a set crosses. Plain mathematics. -/
namespace Go.Proofs.YtinlnafkmoabbaaGreatDoor.Sg
open Go.RowKit Pt NewI
theorem sizeI_succ (x U : Nat) : sizE (x + 1) U = sizE x U + if U.testBit x = true then 1 else 0 := by
  unfold sizE
  rw [List.range_succ, List.countP_append]
  simp [List.countP_cons]
theorem sizeI_mono {R S : Nat} (h : ∀ v, R.testBit v = true → S.testBit v = true) : ∀ n, sizE n R ≤ sizE n S
  | 0 => Nat.le_refl _
  | n + 1 => by
    have ih := sizeI_mono h n
    rw [sizeI_succ, sizeI_succ]
    cases hr : R.testBit n
    · simp; omega
    · rw [h n hr]; simp; omega
theorem bit_set (S x y : Nat) : (S ||| 2 ^ x).testBit y = (S.testBit y || decide (y = x)) := by
  rw [Nat.testBit_or, Nat.testBit_two_pow]
  by_cases h : y = x
  · subst h; simp
  · rw [decide_eq_false h, decide_eq_false (fun e => h e.symm)]
theorem sizeI_set {S x : Nat} (h : S.testBit x = false) : ∀ n, sizE n (S ||| 2 ^ x) = sizE n S + if x < n then 1 else 0
  | 0 => by simp [sizE]
  | n + 1 => by
    have ih := sizeI_set h n
    rw [sizeI_succ, sizeI_succ, ih, bit_set]
    by_cases e : n = x
    · subst e
      simp [h]
    · rw [decide_eq_false e, Bool.or_false]
      by_cases hl : x < n
      · have h2 : x < n + 1 := by omega
        simp only [hl, h2, if_true]
        omega
      · have h2 : ¬ x < n + 1 := by omega
        simp only [hl, h2, if_false]
        omega
/-- No two edges of a set cross. -/
def Ind (c : Nat → Nat) (I : Nat) : Prop := ∀ y, I.testBit y = true → ∀ z, I.testBit z = true → (c y).testBit z = false
/-- Each edge in turn put into a set, where none of it crosses it. -/
def growN (c : Nat → Nat) (I : Nat) : Nat → Nat
  | 0 => I
  | X + 1 => if (c X &&& growN c I X == 0) = true then growN c I X ||| 2 ^ X else growN c I X
section
variable {c : Nat → Nat} {E : Nat} (hs : ∀ x y, x < E → y < E → (c x).testBit y = (c y).testBit x) (hi : ∀ x, (c x).testBit x = false)
include hs hi
theorem grow_facts {I : Nat} (h1 : Ind c I) (h2 : I < 2 ^ E) : ∀ X, X ≤ E → Ind c (growN c I X) ∧ (∀ y, I.testBit y = true → (growN c I X).testBit y = true) ∧ growN c I X < 2 ^ E ∧ ∀ x, x < X → (growN c I X).testBit x = false → ∃ z, (c x).testBit z = true ∧ (growN c I X).testBit z = true
  | 0, _ => ⟨h1, fun _ h => h, h2, fun x hx => by omega⟩
  | X + 1, hX => by
    obtain ⟨a1, a2, a3, a4⟩ := grow_facts h1 h2 X (by omega)
    unfold growN
    generalize growN c I X = J at a1 a2 a3 a4 ⊢
    have low : ∀ y, J.testBit y = true → y < E := fun y hy => by
      refine Classical.byContradiction fun hn => ?_
      rw [bits_of_lt a3 y (by omega)] at hy
      cases hy
    split
    · rename_i h0
      have h0 := and_zero.1 h0
      refine ⟨fun y hy z hz => ?_, fun y hy => by rw [bit_set, a2 y hy]; rfl, ?_, fun x hx hb => ?_⟩
      · rw [bit_set, Bool.or_eq_true, decide_eq_true_eq] at hy hz
        have no : ∀ y, J.testBit y = true → (c X).testBit y = false := fun y hy => by
          cases hc : (c X).testBit y
          · rfl
          · rw [h0 y hc] at hy; cases hy
        rcases hy with hy | rfl
        · rcases hz with hz | rfl
          · exact a1 y hy z hz
          · rw [hs y z (low y hy) (by omega)]
            exact no y hy
        · rcases hz with hz | rfl
          · exact no z hz
          · exact hi _
      · exact Nat.or_lt_two_pow a3 (Nat.pow_lt_pow_right (by omega) (by omega))
      · rw [bit_set, Bool.or_eq_false_iff, decide_eq_false_iff_not] at hb
        obtain ⟨z, z1, z2⟩ := a4 x (by omega) hb.1
        exact ⟨z, z1, by rw [bit_set, z2]; rfl⟩
    · rename_i h0
      refine ⟨a1, a2, a3, fun x hx hb => ?_⟩
      rcases (by omega : x < X ∨ x = X) with hl | rfl
      · exact a4 x hl hb
      · refine Classical.byContradiction fun hn => h0 (and_zero.2 fun y hy => ?_)
        cases hj : J.testBit y
        · rfl
        · exact absurd ⟨y, hy, hj⟩ hn
/-- A set of which no two edges cross is part of a full one. -/
theorem grow_full {I : Nat} (h1 : Ind c I) (h2 : I < 2 ^ E) : ∃ M, M ∈ triL c E ∧ ∀ y, I.testBit y = true → M.testBit y = true := by
  obtain ⟨a1, a2, a3, a4⟩ := grow_facts hs hi h1 h2 E (Nat.le_refl _)
  refine ⟨growN c I E, mem_triL.2 ⟨fullB_iff.2 fun x hx => ?_, a3⟩, a2⟩
  cases hb : (growN c I E).testBit x
  · refine (Bool.eq_false_iff.2 fun h => ?_).symm
    obtain ⟨z, z1, z2⟩ := a4 x hx hb
    rw [and_zero.1 h z z1] at z2
    cases z2
  · exact (and_zero.2 fun y hy => by
      cases hj : (growN c I E).testBit y
      · rfl
      · rw [a1 x hb y hj] at hy; cases hy).symm
/-- Where all full sets have as many edges: of what can stand in the place of an edge, each fits. -/
theorem fit_is {T k m : Nat} (hm : ∀ U ∈ triL c E, sizE E U = m) (hT : fullB c E T = true) (hl : T < 2 ^ E) (hkE : k < E) (hk : T.testBit k = true) {x : Nat} (hx : x < E) :
    ((x != k) && (!(T - 2 ^ k).testBit x && fullB c E (T - 2 ^ k + 2 ^ x))) = (!T.testBit x && (c x &&& (T - 2 ^ k) == 0)) := by
  have hR : ∀ y, (T - 2 ^ k).testBit y = (T.testBit y && decide (y ≠ k)) := bit_sub hk
  have hmem : T ∈ triL c E := mem_triL.2 ⟨hT, hl⟩
  have hf := fullB_iff.1 hT
  have low : ∀ y, T.testBit y = true → y < E := fun y hy => by
    refine Classical.byContradiction fun hn => ?_
    rw [bits_of_lt hl y (by omega)] at hy
    cases hy
  have ind : ∀ y, T.testBit y = true → ∀ z, T.testBit z = true → (c y).testBit z = false := fun y hy z hz => by
    have := hf y (low y hy)
    rw [hy] at this
    cases hc : (c y).testBit z
    · rfl
    · rw [and_zero.1 this.symm z hc] at hz; cases hz
  by_cases hxT : T.testBit x = true
  · rw [hxT, Bool.not_true, Bool.false_and]
    rw [hR, hxT, Bool.true_and]
    by_cases e : x = k
    · rw [e]; simp
    · rw [decide_eq_true e]; simp
  · have hxF : T.testBit x = false := by simpa using hxT
    have hne : x ≠ k := fun e => by rw [e, hk] at hxF; cases hxF
    have hRx : (T - 2 ^ k).testBit x = false := by rw [hR, hxF]; rfl
    rw [bne_iff_ne.2 hne, Bool.true_and, hRx, hxF, Bool.not_false, Bool.true_and, Bool.true_and, Bool.eq_iff_iff]
    have hV : ∀ y, (T - 2 ^ k + 2 ^ x).testBit y = ((T - 2 ^ k).testBit y || decide (y = x)) := bit_add hRx
    constructor
    · intro hV1
      have := fullB_iff.1 hV1 x hx
      rw [hV, decide_eq_true rfl, Bool.or_true] at this
      refine and_zero.2 fun y hy => ?_
      have h2 := and_zero.1 this.symm y hy
      rw [hV, Bool.or_eq_false_iff] at h2
      exact h2.1
    · intro h0
      have h0 := and_zero.1 h0
      have hxk : (c x).testBit k = true := by
        have h1 := hf x hx
        rw [hxF] at h1
        refine Classical.byContradiction fun hn => ?_
        have h2 : (c x &&& T == 0) = true := and_zero.2 fun y hy => by
          have := h0 y hy
          rw [hR] at this
          by_cases e : y = k
          · exact absurd (e ▸ hy) hn
          · rw [decide_eq_true e, Bool.and_true] at this; exact this
        rw [h2] at h1
        cases h1
      have hRT : ∀ y, (T - 2 ^ k).testBit y = true → T.testBit y = true ∧ y ≠ k := fun y hy => by
        rw [hR, Bool.and_eq_true, decide_eq_true_eq] at hy; exact hy
      -- two that stand in the place of k cross each other
      have cross : ∀ w, w < E → T.testBit w = false → w ≠ x → (∀ y, (c w).testBit y = true → (T - 2 ^ k).testBit y = false) → (c w).testBit x = true := fun w hw hwT hwx hw0 => by
        refine Classical.byContradiction fun hn => ?_
        have hn : (c w).testBit x = false := by simpa using hn
        have hRw : (T - 2 ^ k).testBit w = false := by rw [hR, hwT]; rfl
        have hRxw : ((T - 2 ^ k) ||| 2 ^ x).testBit w = false := by rw [bit_set, hRw, decide_eq_false hwx]; rfl
        have hI : Ind c ((T - 2 ^ k) ||| 2 ^ x ||| 2 ^ w) := fun y hy z hz => by
          rw [bit_set, bit_set, Bool.or_eq_true, Bool.or_eq_true, decide_eq_true_eq, decide_eq_true_eq] at hy hz
          have n0 : ∀ {u y}, (∀ y, (c u).testBit y = true → (T - 2 ^ k).testBit y = false) → (T - 2 ^ k).testBit y = true → (c u).testBit y = false := fun {u y} g hy => by
            cases hc : (c u).testBit y
            · rfl
            · rw [g y hc] at hy; cases hy
          rcases hy with (hy | rfl) | rfl
          · rcases hz with (hz | rfl) | rfl
            · exact ind y (hRT y hy).1 z (hRT z hz).1
            · rw [hs y z (low y (hRT y hy).1) hx]; exact n0 h0 hy
            · rw [hs y z (low y (hRT y hy).1) hw]; exact n0 hw0 hy
          · rcases hz with (hz | rfl) | rfl
            · exact n0 h0 hz
            · exact hi _
            · rw [hs y z hx hw]; exact hn
          · rcases hz with (hz | rfl) | rfl
            · exact n0 hw0 hz
            · exact hn
            · exact hi _
        have hlI : ((T - 2 ^ k) ||| 2 ^ x ||| 2 ^ w) < 2 ^ E := Nat.or_lt_two_pow (Nat.or_lt_two_pow (Nat.lt_of_le_of_lt (Nat.sub_le _ _) hl) (Nat.pow_lt_pow_right (by omega) hx)) (Nat.pow_lt_pow_right (by omega) hw)
        obtain ⟨M, hM, hsub⟩ := grow_full hs hi hI hlI
        have s1 := sizeI_mono hsub E
        rw [sizeI_set hRxw, sizeI_set hRx, if_pos hx, if_pos hw, hm M hM] at s1
        have s2 := hm T hmem
        have e : T = (T - 2 ^ k) ||| 2 ^ k := Nat.eq_of_testBit_eq fun y => by
          rw [bit_set, hR]
          by_cases e : y = k
          · subst e; rw [hk]; simp
          · simp [e]
        rw [e, sizeI_set (by rw [hR]; simp), if_pos hkE] at s2
        omega
      refine fullB_iff.2 fun w hw => ?_
      rw [hV]
      by_cases e : w = x
      · subst e
        rw [decide_eq_true rfl, Bool.or_true]
        refine (and_zero.2 fun y hy => ?_).symm
        rw [hV, h0 y hy, Bool.false_or, decide_eq_false_iff_not]
        exact fun e => by rw [e, hi] at hy; cases hy
      · rw [decide_eq_false e, Bool.or_false]
        cases hwR : (T - 2 ^ k).testBit w
        · refine (Bool.eq_false_iff.2 fun hz => ?_).symm
          have hz := and_zero.1 hz
          have hw0 : ∀ y, (c w).testBit y = true → (T - 2 ^ k).testBit y = false := fun y hy => by
            have := hz y hy
            rw [hV, Bool.or_eq_false_iff] at this
            exact this.1
          have hwx : (c w).testBit x = false := by
            cases hc : (c w).testBit x
            · rfl
            · have := hz x hc
              rw [hV, decide_eq_true rfl, Bool.or_true] at this
              cases this
          by_cases ek : w = k
          · subst ek
            rw [hs w x hw hx, hxk] at hwx
            cases hwx
          · have hwT : T.testBit w = false := by
              rw [hR, decide_eq_true ek, Bool.and_true] at hwR
              exact hwR
            rw [cross w hw hwT e hw0] at hwx
            cases hwx
        · obtain ⟨w1, w2⟩ := hRT w hwR
          refine (and_zero.2 fun y hy => ?_).symm
          rw [hV, Bool.or_eq_false_iff, decide_eq_false_iff_not]
          refine ⟨?_, fun e => ?_⟩
          · cases hyR : (T - 2 ^ k).testBit y
            · rfl
            · rw [ind w w1 y (hRT y hyR).1] at hy; cases hy
          · subst e
            rw [hs w y hw hx] at hy
            rw [h0 w hy] at hwR
            cases hwR
end
/-- The edges that no edge of a set crosses. -/
def uncN (c : Nat → Nat) (E T : Nat) : Nat := setN (fun x => T &&& c x == 0) E
theorem unc_bit (c : Nat → Nat) (E T x : Nat) : (uncN c E T).testBit x = (decide (x < E) && (c x &&& T == 0)) := by
  unfold uncN
  rw [setN_bit, Nat.and_comm]
theorem unc_full {c : Nat → Nat} {E T : Nat} (hT : T < 2 ^ E) : uncN c E T = T ↔ fullB c E T = true := by
  constructor
  · intro h
    refine fullB_iff.2 fun x hx => ?_
    have := unc_bit c E T x
    rw [h, decide_eq_true hx, Bool.true_and] at this
    exact this
  · intro h
    refine Nat.eq_of_testBit_eq fun x => ?_
    rw [unc_bit]
    by_cases hx : x < E
    · rw [decide_eq_true hx, Bool.true_and, fullB_iff.1 h x hx]
    · rw [decide_eq_false hx, Bool.false_and, bits_of_lt hT x (by omega)]
/-- What impl puts in the place of edge k. -/
def othN (c : Nat → Nat) (E T k : Nat) : Nat := uncN c E (T ^^^ (T &&& 2 ^ k)) ^^^ (uncN c E (T ^^^ (T &&& 2 ^ k)) &&& T)
def flpN (c : Nat → Nat) (E T k : Nat) : Nat × Bool := if sizE E (othN c E T k) = 1 then ((T ^^^ (T &&& 2 ^ k)) ||| othN c E T k, true) else (0, false)
theorem rest_sub {T k : Nat} (hk : T.testBit k = true) : T ^^^ (T &&& 2 ^ k) = T - 2 ^ k := Nat.eq_of_testBit_eq fun y => by
  rw [bit_sub hk, Nat.testBit_xor, Nat.testBit_and, Nat.testBit_two_pow]
  by_cases e : y = k
  · subst e; rw [hk]; simp
  · rw [decide_eq_false (fun h => e h.symm), decide_eq_true e]; simp
theorem one_of_size {E S : Nat} (hl : S < 2 ^ E) {x : Nat} (h : (List.range E).filter (fun y => S.testBit y) = [x]) : S = 2 ^ x := by
  have hm : ∀ y, (y < E ∧ S.testBit y = true) ↔ y = x := fun y => by
    have : y ∈ (List.range E).filter (fun y => S.testBit y) ↔ y = x := by rw [h]; simp
    rw [← this, List.mem_filter, List.mem_range]
  refine Nat.eq_of_testBit_eq fun y => ?_
  rw [Nat.testBit_two_pow]
  by_cases e : y = x
  · rw [decide_eq_true e.symm, ((hm y).2 e).2]
  · rw [decide_eq_false (fun h => e h.symm)]
    cases hb : S.testBit y
    · rfl
    · refine absurd ((hm y).1 ⟨?_, hb⟩) e
      refine Classical.byContradiction fun hn => ?_
      rw [bits_of_lt hl y (by omega)] at hb
      cases hb
theorem flp_is {c : Nat → Nat} {E T k m : Nat} (hs : ∀ x y, x < E → y < E → (c x).testBit y = (c y).testBit x) (hi : ∀ x, (c x).testBit x = false) (hm : ∀ U ∈ triL c E, sizE E U = m) (hT : fullB c E T = true) (hl : T < 2 ^ E) (hkE : k < E) (hk : T.testBit k = true) : flpN c E T k = flipP c E T k := by
  have ho : ∀ x, (othN c E T k).testBit x = (decide (x < E) && (!T.testBit x && (c x &&& (T - 2 ^ k) == 0))) := fun x => by
    unfold othN
    rw [rest_sub hk, Nat.testBit_xor, Nat.testBit_and, unc_bit]
    cases decide (x < E) <;> cases T.testBit x <;> cases (c x &&& (T - 2 ^ k) == 0) <;> rfl
  have hfit : fitL c E T k = (List.range E).filter fun x => (othN c E T k).testBit x := by
    unfold fitL
    refine List.filter_congr fun x hx => ?_
    have hx := List.mem_range.1 hx
    rw [fit_is hs hi hm hT hl hkE hk hx, ho, decide_eq_true hx, Bool.true_and]
  have hol : othN c E T k < 2 ^ E := lt_of_bits fun y hy => by rw [ho, decide_eq_false (by omega)]; rfl
  have hsz : sizE E (othN c E T k) = (fitL c E T k).length := by
    rw [hfit]
    unfold sizE
    rw [List.countP_eq_length_filter]
  unfold flpN flipP
  rw [hsz]
  split
  · rename_i h1
    match hL : fitL c E T k, h1 with
    | [x], _ =>
      have hx := one_of_size hol (hfit.symm.trans hL)
      have hmx : x ∈ fitL c E T k := by rw [hL]; exact List.mem_singleton.2 rfl
      obtain ⟨-, -, hxT, -⟩ := (mem_fitL hk).1 hmx
      show ((T ^^^ (T &&& 2 ^ k)) ||| othN c E T k, true) = (exch T k x, true)
      rw [hx, rest_sub hk]
      congr 1
      refine Nat.eq_of_testBit_eq fun y => ?_
      rw [bit_set, exch_bit hk hxT, bit_sub hk]
      by_cases e1 : y = k
      · subst e1
        have : y ≠ x := fun e => by rw [← e, hk] at hxT; cases hxT
        simp [this]
      · by_cases e2 : y = x
        · subst e2; simp [e1]
        · simp [e1, e2]
  · rename_i h1
    match hL : fitL c E T k, h1 with
    | [], _ => rfl
    | _ :: _ :: _, _ => rfl
    | [_], h1 => exact absurd rfl h1
section
variable {n : Nat} {s : List UInt8}
theorem cS_bit (h : aciB n s = true) {x : Nat} (hx : x < eN n) (y : Nat) : (cS n s x).testBit y = (decide (y < eN n) && crE (sgnF (lookS n s)) n (x, y)) := by
  show (crC (sgS n s) n x).testBit y = _
  rw [← crS_crC h hx]
  unfold crS
  rw [setN_bit]
theorem cS_sym (h : aciB n s = true) (x y : Nat) (hx : x < eN n) (hy : y < eN n) : (cS n s x).testBit y = (cS n s y).testBit x := by
  rw [cS_bit h hx, cS_bit h hy, decide_eq_true hx, decide_eq_true hy, crE_sym h hy hx]
theorem cS_self (x : Nat) : (cS n s x).testBit x = false := by
  show (crC (sgS n s) n x).testBit x = false
  unfold crC crG
  rw [setN_bit]
  simp
theorem cS_size (h : aciB n s = true) (h6 : n ≤ 6) : ∀ U ∈ triL (cS n s) (eN n), sizE (eN n) U = 3 * n - 3 - hulG (sgS n s) n := fun U hU => by
  obtain ⟨-, hm, -⟩ := tri_main h h6
  have := (hm U hU).1
  omega
/-- impl's flip is spec's. -/
theorem flp_flip (h : aciB n s = true) (h6 : n ≤ 6) {T k : Nat} (hT : fullB (cS n s) (eN n) T = true) (hl : T < 2 ^ eN n) (hkE : k < eN n) (hk : T.testBit k = true) : flpN (cS n s) (eN n) T k = flipP (cS n s) (eN n) T k :=
  flp_is (cS_sym h) cS_self (cS_size h h6) hT hl hkE hk
end
/-- The results of the flips of the edges ahead of K, as they come. -/
def rawL (c : Nat → Nat) (E T : Nat) (L : List Nat) : List Nat := L.flatMap fun k => if (flipP c E T k).2 = true then [(flipP c E T k).1] else []
def elN (T : Nat) : List Nat := (List.range 21).filter fun k => T.testBit k
theorem mem_elN {T x : Nat} : x ∈ elN T ↔ x < 21 ∧ T.testBit x = true := by unfold elN; rw [List.mem_filter, List.mem_range]
theorem elN_len (T : Nat) : (elN T).length ≤ 21 := by
  have := List.length_filter_le (fun k => T.testBit k) (List.range 21)
  rw [List.length_range] at this
  exact this
theorem rawL_len (c : Nat → Nat) (E T : Nat) : ∀ L : List Nat, (rawL c E T L).length ≤ L.length
  | [] => Nat.le_refl _
  | k :: L => by
    have := rawL_len c E T L
    unfold rawL at this ⊢
    rw [List.flatMap_cons, List.length_append, List.length_cons]
    split
    · simp only [List.length_cons, List.length_nil]; omega
    · simp only [List.length_nil]; omega
theorem rawL_snoc (c : Nat → Nat) (E T k : Nat) (L : List Nat) : rawL c E T (L ++ [k]) = rawL c E T L ++ if (flipP c E T k).2 = true then [(flipP c E T k).1] else [] := by
  unfold rawL
  rw [List.flatMap_append, List.flatMap_cons, List.flatMap_nil, List.append_nil]
theorem mem_rawL {c : Nat → Nat} {E T U : Nat} {L : List Nat} : U ∈ rawL c E T L ↔ ∃ k ∈ L, flipP c E T k = (U, true) := by
  unfold rawL
  rw [List.mem_flatMap]
  constructor
  · rintro ⟨k, hk, hU⟩
    split at hU
    · rename_i h
      rw [List.mem_singleton] at hU
      exact ⟨k, hk, Prod.ext hU.symm h⟩
    · cases hU
  · rintro ⟨k, hk, hf⟩
    exact ⟨k, hk, by rw [hf]; simp⟩
theorem rawL_nodup {c : Nat → Nat} {E T : Nat} (hE : E ≤ 21) (hl : T < 2 ^ E) (hT : fullB c E T = true) : ∀ L : List Nat, L.Nodup → (∀ k ∈ L, k ∈ elN T) → (rawL c E T L).Nodup
  | [], _, _ => by simp [rawL]
  | k :: L, hn, hm => by
    have ih := rawL_nodup hE hl hT L (List.nodup_cons.1 hn).2 fun x hx => hm x (List.mem_cons_of_mem _ hx)
    have hkL := (List.nodup_cons.1 hn).1
    have e : rawL c E T (k :: L) = (if (flipP c E T k).2 = true then [(flipP c E T k).1] else []) ++ rawL c E T L := rfl
    rw [e]
    split
    · rename_i hf
      rw [List.singleton_append, List.nodup_cons]
      refine ⟨fun hin => ?_, ih⟩
      obtain ⟨k', hk', hf'⟩ := mem_rawL.1 hin
      have low : ∀ {y}, T.testBit y = true → y < E := fun {y} hy => by
        refine Classical.byContradiction fun h => ?_
        rw [bits_of_lt hl y (by omega)] at hy
        cases hy
      have b1 := (mem_elN.1 (hm k List.mem_cons_self)).2
      have b2 := (mem_elN.1 (hm k' (List.mem_cons_of_mem _ hk'))).2
      obtain ⟨-, x, -, -, e1, x1, -⟩ := flip_back (low b1) hT b1 (Prod.ext rfl hf : flipP c E T k = ((flipP c E T k).1, true))
      obtain ⟨-, y, -, -, e2, y1, -⟩ := flip_back (low b2) hT b2 hf'
      have hne : k ≠ k' := fun e => hkL (e ▸ hk')
      have t1 := exch_bit b1 x1 k
      have t2 := exch_bit b2 y1 k
      rw [← e1, if_pos rfl] at t1
      rw [← e2, t1, if_neg hne] at t2
      split at t2
      · cases t2
      · rw [b1] at t2; cases t2
    · exact ih
/-- Sorted, these are spec's. -/
theorem raw_sort {c : Nat → Nat} {E T : Nat} (hE : E ≤ 21) (hl : T < 2 ^ E) (hT : fullB c E T = true) : (zl (rawL c E T (elN T))).mergeSort (fun x y => decide (x ≤ y)) = zl (flipsL c E T) := by
  have low : ∀ {y}, T.testBit y = true → y < E := fun {y} hy => by
    refine Classical.byContradiction fun h => ?_
    rw [bits_of_lt hl y (by omega)] at hy
    cases hy
  have hn := rawL_nodup hE hl hT (elN T) ((List.nodup_range (n := 21)).filter _) (fun _ h => h)
  have ha : (flipsL c E T).Pairwise (· < ·) := flipsTo_asc c E T E
  have hp : (rawL c E T (elN T)).Perm (flipsL c E T) := (List.perm_ext_iff_of_nodup hn (ha.imp fun h => by omega)).2 fun U => by
    rw [mem_rawL, mem_flipsL]
    unfold Fl
    constructor
    · rintro ⟨k, hk, hf⟩
      have := (mem_elN.1 hk).2
      exact ⟨k, low this, this, hf⟩
    · rintro ⟨k, h1, h2, h3⟩
      exact ⟨k, mem_elN.2 ⟨by omega, h2⟩, h3⟩
  refine List.Perm.eq_of_pairwise (le := fun a b => (a : Int) ≤ b) (fun a b _ _ h1 h2 => by omega) ?_ ?_ ?_
  · have := List.pairwise_mergeSort (le := fun x y : Int => decide (x ≤ y)) (fun a b c h1 h2 => by simp at h1 h2 ⊢; omega) (fun a b => by simp; omega) (zl (rawL c E T (elN T)))
    exact this.imp fun h => by simpa using h
  · unfold zl
    rw [List.pairwise_map]
    exact ha.imp fun h => by omega
  · exact (List.mergeSort_perm _ _).trans (hp.map _)
end Go.Proofs.YtinlnafkmoabbaaGreatDoor.Sg
/- impl.elementsOf of any set of edges; math/bits.OnesCount of sets of fifteen edges. -/
namespace Go.Proofs.YtinlnafkmoabbaaGreatDoor.Sg
open Go.RowKit Pt NewI
theorem elN_asc (T : Nat) : (elN T).Pairwise (· < ·) := List.pairwise_lt_range.filter _
theorem elN_zero : elN 0 = [] := by unfold elN; rw [List.filter_eq_nil_iff]; intro x _; rw [Nat.zero_testBit]; simp
/-- The lowest bit of a number, and the number without it. -/
theorem low_bitG {r : Nat} (h0 : 0 < r) (h : r < 2097152) : ∃ k, k < 21 ∧ r &&& (18446744073709551616 - r) = 2 ^ k ∧ r &&& (r - 1) = r - 2 ^ k ∧ r.testBit k = true ∧ elN r = k :: elN (r - 2 ^ k) ∧ r - 2 ^ k < r := by
  have hne : elN r ≠ [] := fun e => by
    have : r = 0 := Nat.eq_of_testBit_eq fun y => by
      rw [Nat.zero_testBit]
      cases hb : r.testBit y
      · rfl
      · have hy : y < 21 := by
          refine Classical.byContradiction fun hn => ?_
          rw [bits_of_lt (E := 21) (by omega) y (by omega)] at hb
          cases hb
        have := mem_elN.2 ⟨hy, hb⟩
        rw [e] at this
        cases this
    omega
  obtain ⟨k, L, hL⟩ : ∃ k L, elN r = k :: L := by
    cases hc : elN r with
    | nil => exact absurd hc hne
    | cons a l => exact ⟨a, l, rfl⟩
  obtain ⟨hk, hb⟩ := mem_elN.1 (by rw [hL]; exact List.mem_cons_self : k ∈ elN r)
  have hasc := elN_asc r
  rw [hL] at hasc
  obtain ⟨ha1, ha2⟩ := List.pairwise_cons.1 hasc
  have hlow : ∀ y, y < k → r.testBit y = false := fun y hy => by
    cases hc : r.testBit y
    · rfl
    · have : y ∈ elN r := mem_elN.2 ⟨by omega, hc⟩
      rw [hL] at this
      rcases List.mem_cons.1 this with rfl | hm
      · omega
      · have := ha1 y hm; omega
  have hle := sub_le hb
  have hp := Nat.pow_pos (n := k) (show 0 < 2 by omega)
  obtain ⟨q, r', hr', hr⟩ := bit_parts r k
  rw [if_pos hb] at hr
  have hp1 : 2 ^ (k + 1) = 2 * 2 ^ k := by rw [Nat.pow_succ]; omega
  have hz : r' = 0 := Nat.eq_of_testBit_eq fun y => by
    rw [Nat.zero_testBit]
    rcases Nat.lt_or_ge y k with hy | hy
    · have := hlow y hy
      rw [hr, Nat.testBit_two_pow_mul_add q (show 2 ^ k + r' < 2 ^ (k + 1) by omega), if_pos (by omega), show 2 ^ k + r' = 2 ^ k * 1 + r' by omega, Nat.testBit_two_pow_mul_add 1 hr', if_pos hy] at this
      exact this
    · exact bits_of_lt hr' y hy
  subst hz
  have hm1 : ∀ y, (r - 1).testBit y = if y < k then true else r.testBit y && decide (y ≠ k) := fun y => by
    have e : r - 1 = 2 ^ (k + 1) * q + (2 ^ k - 1) := by omega
    have hbit : r.testBit y = if y < k + 1 then (2 ^ k + 0).testBit y else q.testBit (y - (k + 1)) := by
      conv => lhs; rw [hr]
      exact Nat.testBit_two_pow_mul_add q (show 2 ^ k + 0 < 2 ^ (k + 1) by omega) y
    rw [hbit, e, Nat.testBit_two_pow_mul_add q (show 2 ^ k - 1 < 2 ^ (k + 1) by omega), Nat.testBit_two_pow_sub_one]
    by_cases h1 : y < k
    · rw [if_pos (by omega), if_pos h1, decide_eq_true h1]
    · rw [if_neg h1]
      by_cases h2 : y = k
      · subst h2
        rw [if_pos (by omega), decide_eq_false (by omega)]
        simp
      · rw [if_neg (by omega), if_neg (by omega), decide_eq_true h2, Bool.and_true]
  have e1 : r &&& (r - 1) = r - 2 ^ k := Nat.eq_of_testBit_eq fun y => by
    rw [Nat.testBit_and, hm1, bit_sub hb]
    by_cases h1 : y < k
    · rw [hlow y h1]; rfl
    · rw [if_neg h1]
      cases r.testBit y <;> rfl
  refine ⟨k, hk, ?_, e1, hb, ?_, by omega⟩
  · refine Nat.eq_of_testBit_eq fun y => ?_
    have e : 18446744073709551616 - r = 2 ^ 64 - (r - 1 + 1) := by omega
    rw [e, Nat.testBit_and, Nat.testBit_two_pow_sub_succ (by omega), Nat.testBit_two_pow, hm1]
    by_cases h1 : y < k
    · rw [hlow y h1, decide_eq_false (show ¬ k = y by omega)]; rfl
    · rw [if_neg h1]
      by_cases h2 : y = k
      · subst h2
        rw [hb, decide_eq_true (show y < 64 by omega)]
        simp
      · rw [decide_eq_false (show ¬ k = y from fun e => h2 e.symm), decide_eq_true h2, Bool.and_true]
        cases r.testBit y <;> simp
  · rw [hL]
    congr 1
    refine List.Perm.eq_of_pairwise (le := fun a b => a < b) (fun a b _ _ h1 h2 => by omega) ha2 (elN_asc _) ?_
    refine (List.perm_ext_iff_of_nodup (ha2.imp fun h => by omega) ((elN_asc _).imp fun h => by omega)).2 fun y => ?_
    rw [mem_elN, bit_sub hb, Bool.and_eq_true, decide_eq_true_eq]
    constructor
    · intro hy
      have h1 := mem_elN.1 (by rw [hL]; exact List.mem_cons_of_mem _ hy : y ∈ elN r)
      have := ha1 y hy
      exact ⟨h1.1, h1.2, by omega⟩
    · rintro ⟨h1, h2, h3⟩
      have : y ∈ elN r := mem_elN.2 ⟨h1, h2⟩
      rw [hL] at this
      rcases List.mem_cons.1 this with h | h
      · exact absurd h h3
      · exact h
set_option maxHeartbeats 1600000 in
set_option maxRecDepth 100000 in
theorem elementsG_any (T : Nat) (hT21 : T < 2097152) (w : World) (hT : Tab w) :
    Calls Tryz.prog 90 #[.int .i64 T] w fun e w' => ∃ v, e = .returned v ∧ ArgZ w' w.heap.size v (zl (elN T)) ∧ Below w.heap.size w w' := by
  have HTAB := Lib.hid hT
  have HTZ := Lib.hid tzE_any
  obtain ⟨i0, hi, hz0, hz1, hz2⟩ := info_parts infoI
  have hcv : IntKind.u64.wrap ((T : Nat) : Int) = ((T : Nat) : Int) := by rw [IntKind.wrap_u64]; omega
  have HO0 : Hid (OwnsZ w w.heap.size (.slice none 0 0) (zl [])) := Lib.hid (World.ownsRow_nil _ _ _ _)
  have HLEN := Lib.hid (elN_len T)
  have H0 : Hid (elN T = [] ++ elN T) := Lib.hid rfl
  obtain ⟨els, hels⟩ : ∃ els, els = elN T := ⟨_, rfl⟩
  rw [← hels] at H0 HLEN ⊢
  have H0 : Hid (els = [] ++ elN T) := Lib.hid hels
  clear hT hels
  go_enter Tryz.func90, Tryz.ntmps90
  go_wp2
  go_loopw [3, 4] (fun vv rv wr => ∃ (r : Nat) (D : List Nat), rv = .int .u64 r ∧ r < 2097152 ∧ Hid (els = D ++ elN r) ∧ Hid (OwnsZ wr w.heap.size vv (zl D)) ∧ Hid (D = [] → vv = .slice none 0 0) ∧ Hid (Below w.heap.size w wr)) (fun _ rv _ => (intOf rv).toNat)
  case atStart => exact ⟨T, [], rfl, hT21, H0, HO0, Lib.hid (fun _ => rfl), Lib.hid (Below.refl _ _)⟩
  case round =>
    obtain ⟨r, D, rfl, hr, HR, HO, HN, HB⟩ := hrel
    by_cases hz : r = 0
    · subst hz
      have hD : els = D := by rw [HR.out, elN_zero, List.append_nil]
      subst hD
      have HA : Hid (ArgZ wr w.heap.size _ (zl els)) := Lib.hid (ArgZ.of_own HO.out (fun e => HN.out (zl_nil e)))
      clear HO HN
      go_wp2
      go_ret
      exact ⟨_, rfl, HA.out, HB.out⟩
    · obtain ⟨k, hk, l1, l2, -, l3, l4⟩ := low_bitG (r := r) (by omega) hr
      have HC := Lib.hid (fun W hW => HTZ.out r k (by omega) hr hk l1 W hW)
      obtain ⟨p, hp⟩ : ∃ p, p = r - 1 := ⟨_, rfl⟩
      have hp1 : IntKind.u64.wrap ((r : Int) - 1) = (p : Int) := by rw [IntKind.wrap_u64]; omega
      have hba : bits BinOp.and IntKind.u64 (r : Int) ((p : Nat) : Int) = ((r - 2 ^ k : Nat) : Int) := by rw [bits_andU r p (by omega) (by omega), hp, l2]
      have hnz : ((r : Int) != 0) = true := by simp; omega
      have HR2 : Hid (els = (D ++ [k]) ++ elN (r - 2 ^ k)) := Lib.hid (by rw [HR.out, l3, List.append_assoc, List.singleton_append])
      generalize r - 2 ^ k = q at hba l4 HR2
      have hlen : D.length ≤ 20 := by
        have h1 := congrArg List.length HR2.out
        have h2 := HLEN.out
        rw [List.length_append, List.length_append, List.length_singleton] at h1
        omega
      have hzl : (zl D).length ≤ 20 := by rw [zl_length]; omega
      have hwr := HB.out.size
      clear l1 l2 l3 hp HR hlen
      go_wp2_with fail
      refine (HC.out _ (HTAB.out.on HB.out)).mono ?_
      rintro e w' ⟨rfl, rfl⟩
      go_wp2_with (at_builtin; refine wpList_append_own _ rfl (.tmp 13) (.tmp 16) 27 rfl w.heap.size 3 i0 _ 1 8 Tryz.underlying27 hi hz0 hz1 hz2 rfl (by decide) _ _ _ rfl (World.ownsRow.alloc HO.out _) ⟨_, 0, none⟩ 1 1 [.int .i64 (k : Int)] rfl rfl (news1 _ _ _) (one1 _) (by simp only [maxLen]; omega) (by omega) (by simp; omega) ?_)
      intro v6 w6 hown6 hg6 _
      have HB6 := Lib.hid ((HB.out.alloc hwr (.cells #[.int .i64 (k : Int)] 3)).grown hg6 (by simp; omega) (fun k hk => (World.ownsRow.lt HO.out k hk).1))
      have HO6 : Hid (OwnsZ w6 w.heap.size v6 (zl (D ++ [k]))) := Lib.hid (by
        have := ownsZ_snoc (ys := [(k : Int)]) hown6
        rw [zl_snoc]
        exact this)
      clear hown6 hg6
      go_wp2
      exact ⟨⟨q, D ++ [k], rfl, by omega, HR2, HO6, Lib.hid (fun e => absurd e (by simp)), HB6⟩, by simp only [intOf]; omega⟩
/-- OnesCount's steps at x, with its count. -/
def ocOk (x k : Nat) : Bool := decide (oc1 x < 65536) && (decide (oc2 (oc1 x) < 65536) && (decide (oc3 (oc2 (oc1 x)) + oc3 (oc2 (oc1 x)) / 256 < 65536) && ((oc3 (oc2 (oc1 x)) + oc3 (oc2 (oc1 x)) / 256) &&& 127 == k)))
def ocAll : Nat → Nat → Nat → Bool
  | 0, x, k => ocOk x k
  | d + 1, x, k => ocAll d x k && ocAll d (x + 2 ^ d) (k + 1)
theorem oc_all15 : ocAll 15 0 0 = true := by decide +kernel
theorem sizeI_low {y E d : Nat} (h : y < 2 ^ d) (hd : d ≤ E) : sizE E y = sizE d y := by
  obtain ⟨j, rfl⟩ : ∃ j, E = d + j := ⟨E - d, by omega⟩
  induction j with
  | zero => rfl
  | succ j ih =>
    rw [← Nat.add_assoc, sizeI_succ, bits_of_lt h _ (by omega), ih (by omega)]
    simp
theorem oc_at : ∀ d x k y, ocAll d x k = true → y < 2 ^ d → ocOk (x + y) (k + sizE d y) = true
  | 0, x, k, y, h, hy => by
    obtain rfl : y = 0 := by simpa using hy
    exact h
  | d + 1, x, k, y, h, hy => by
    unfold ocAll at h
    rw [Bool.and_eq_true] at h
    have hp : 2 ^ (d + 1) = 2 * 2 ^ d := by rw [Nat.pow_succ]; omega
    rcases Nat.lt_or_ge y (2 ^ d) with hl | hl
    · have := oc_at d x k y h.1 hl
      rw [sizeI_low hl (by omega : d ≤ d + 1)]
      exact this
    · obtain ⟨z, rfl⟩ : ∃ z, y = 2 ^ d + z := ⟨y - 2 ^ d, by omega⟩
      have hz : z < 2 ^ d := by omega
      have := oc_at d (x + 2 ^ d) (k + 1) z h.2 hz
      have hb : z.testBit d = false := bits_of_lt hz d (Nat.le_refl _)
      have e : 2 ^ d + z = z ||| 2 ^ d := Nat.eq_of_testBit_eq fun v => by rw [Nat.add_comm, bit_add hb, bit_set]
      have e2 : sizE (d + 1) (2 ^ d + z) = sizE d z + 1 := by
        rw [e, sizeI_set hb, if_pos (by omega), sizeI_low hz (by omega : d ≤ d + 1)]
      rw [e2, show x + (2 ^ d + z) = x + 2 ^ d + z by omega, show k + (sizE d z + 1) = k + 1 + sizE d z by omega]
      exact this
theorem oc15 {x : Nat} (h : x < 32768) : oc1 x < 65536 ∧ oc2 (oc1 x) < 65536 ∧ oc3 (oc2 (oc1 x)) + oc3 (oc2 (oc1 x)) / 256 < 65536 ∧ ((oc3 (oc2 (oc1 x)) + oc3 (oc2 (oc1 x)) / 256) &&& 127) = sizE 15 x := by
  have := oc_at 15 0 0 x oc_all15 (by omega)
  unfold ocOk at this
  simp only [Bool.and_eq_true, decide_eq_true_eq, beq_iff_eq, Nat.zero_add] at this
  exact ⟨this.1, this.2.1, this.2.2.1, this.2.2.2⟩
theorem and_i64W (a b : Nat) (ha : a < 2097152) (hb : b < 2097152) : bits BinOp.and IntKind.i64 (a : Int) (b : Int) = ((a &&& b : Nat) : Int) := bits_andE a b ha hb
set_option maxHeartbeats 800000 in
set_option maxRecDepth 100000 in
theorem onesW_core (x a1 a2 y1 b1 b2 y2 z1 y3 y4 r : Nat) (w : World) (_hy3 : y4 < 1048576)
    (h1 : bits BinOp.and IntKind.u64 ((x : Int) / 2) 6148914691236517205 = (a1 : Int)) (h2 : bits BinOp.and IntKind.u64 (x : Int) 6148914691236517205 = (a2 : Int)) (h3 : IntKind.u64.wrap ((a1 : Int) + (a2 : Int)) = (y1 : Int))
    (h4 : bits BinOp.and IntKind.u64 ((y1 : Int) / 4) 3689348814741910323 = (b1 : Int)) (h5 : bits BinOp.and IntKind.u64 (y1 : Int) 3689348814741910323 = (b2 : Int)) (h6 : IntKind.u64.wrap ((b1 : Int) + (b2 : Int)) = (y2 : Int))
    (h7 : IntKind.u64.wrap ((y2 : Int) / 16 + (y2 : Int)) = (z1 : Int)) (h8 : bits BinOp.and IntKind.u64 (z1 : Int) 1085102592571150095 = (y3 : Int))
    (h9 : IntKind.u64.wrap ((y3 : Int) + (y3 : Int) / 256) = (y4 : Int)) (h10 : IntKind.u64.wrap ((y4 : Int) + (y4 : Int) / 65536) = (y4 : Int)) (h11 : IntKind.u64.wrap ((y4 : Int) + (y4 : Int) / 4294967296) = (y4 : Int))
    (h12 : IntKind.i64.wrap (y4 : Int) = (y4 : Int)) (h13 : bits BinOp.and IntKind.i64 (y4 : Int) 127 = (r : Int)) :
    Calls Tryz.prog 165 #[.int .u64 x] w fun e w' => e = .returned (.int .i64 r) ∧ w = w' := by
  go_enter Tryz.func165, Tryz.ntmps165
  go_wp2
  go_ret
  exact ⟨rfl, rfl⟩
theorem onesW_any (x : Nat) (h7 : x < 32768) (w : World) :
    Calls Tryz.prog 165 #[.int .u64 x] w fun e w' => e = .returned (.int .i64 (sizE 15 x : Nat)) ∧ w = w' := by
  obtain ⟨k1, k2, k3, k4⟩ := oc15 h7
  have e2 : (x : Int) / 2 = ((x / 2 : Nat) : Int) := by omega
  have n1 : (x / 2 &&& 6148914691236517205) < 32768 := Nat.lt_of_le_of_lt Nat.and_le_left (by omega)
  have n2 : (x &&& 6148914691236517205) < 32768 := Nat.lt_of_le_of_lt Nat.and_le_left (by omega)
  have e4 : ((oc1 x : Nat) : Int) / 4 = ((oc1 x / 4 : Nat) : Int) := by omega
  have n4 : (oc1 x / 4 &&& 3689348814741910323) < 65536 := Nat.lt_of_le_of_lt Nat.and_le_left (by omega)
  have n5 : (oc1 x &&& 3689348814741910323) < 65536 := Nat.lt_of_le_of_lt Nat.and_le_left (by omega)
  obtain ⟨y4, hy4⟩ : ∃ y4, y4 = oc3 (oc2 (oc1 x)) + oc3 (oc2 (oc1 x)) / 256 := ⟨_, rfl⟩
  rw [← hy4] at k3 k4
  refine onesW_core x (x / 2 &&& 6148914691236517205) (x &&& 6148914691236517205) (oc1 x) (oc1 x / 4 &&& 3689348814741910323) (oc1 x &&& 3689348814741910323) (oc2 (oc1 x)) (oc2 (oc1 x) / 16 + oc2 (oc1 x)) (oc3 (oc2 (oc1 x))) y4 (sizE 15 x) w (by omega) ?_ ?_ ?_ ?_ ?_ ?_ ?_ ?_ ?_ ?_ ?_ ?_ ?_
  · rw [e2]; exact bits_andU _ 6148914691236517205 (by omega) (by omega)
  · exact bits_andU _ 6148914691236517205 (by omega) (by omega)
  · rw [IntKind.wrap_u64]; unfold oc1 at k1 ⊢; omega
  · rw [e4]; exact bits_andU _ 3689348814741910323 (by omega) (by omega)
  · exact bits_andU _ 3689348814741910323 (by omega) (by omega)
  · rw [IntKind.wrap_u64]; generalize oc1 x = y at *; unfold oc2 at k2 ⊢; omega
  · rw [IntKind.wrap_u64]; omega
  · exact bits_andU _ 1085102592571150095 (by omega) (by omega)
  · rw [IntKind.wrap_u64]; omega
  · rw [IntKind.wrap_u64]; omega
  · rw [IntKind.wrap_u64]; omega
  · rw [IntKind.wrap_i64]; omega
  · rw [← k4]; exact and_i64W _ 127 (by omega) (by omega)
set_option maxRecDepth 100000 in
theorem onesG_any (x : Nat) (h7 : x < 32768) (w : World) :
    Calls Tryz.prog 135 #[.int .u64 x] w fun e w' => e = .returned (.int .i64 (sizE 15 x : Nat)) ∧ w = w' := by
  have HC := Lib.hid (onesW_any x h7 w)
  have hw : IntKind.u64.wrap (x : Int) = (x : Int) := by rw [IntKind.wrap_u64]; omega
  generalize sizE 15 x = r at HC ⊢
  go_enter Tryz.func135, Tryz.ntmps135
  go_wp2_with fail
  refine HC.out.mono ?_
  rintro e w' ⟨rfl, rfl⟩
  go_wp2
  go_ret
  exact ⟨rfl, rfl⟩
theorem sizeG_any (S : Nat) (hS : S < 32768) (w : World) :
    Calls Tryz.prog 86 #[.int .i64 S] w fun e w' => e = .returned (.int .i64 (sizE 15 S : Nat)) ∧ w = w' := by
  have HC := Lib.hid (onesG_any S hS w)
  have hcv : IntKind.u64.wrap (S : Int) = (S : Int) := by rw [IntKind.wrap_u64]; omega
  generalize sizE 15 S = r at HC ⊢
  go_enter Tryz.func86, Tryz.ntmps86
  go_wp2_with fail
  refine HC.out.mono ?_
  rintro e w' ⟨rfl, rfl⟩
  go_wp2
  go_ret
  exact ⟨rfl, rfl⟩
end Go.Proofs.YtinlnafkmoabbaaGreatDoor.Sg
/- The edges that no edge of a set crosses, as impl finds them: uncrossed, isTriangulation. -/
namespace Go.Proofs.YtinlnafkmoabbaaGreatDoor.Sg
open Go.RowKit Pt NewI
def uncQ (c : Nat → Nat) (T : Int) (k : Nat) : Bool := bits BinOp.and IntKind.i64 T (c k : Nat) == 0
def uncZ (c : Nat → Nat) (E : Nat) (T : Int) : Nat := setN (uncQ c T) E
theorem uncZ_N {c : Nat → Nat} (hc : ∀ x, c x < 2097152) {E T : Nat} (hT : T < 2097152) : uncZ c E T = uncN c E T := by
  unfold uncZ uncN
  refine setN_congr fun k _ => ?_
  unfold uncQ
  rw [bits_andE T (c k) hT (hc k)]
  rw [Bool.eq_iff_iff, beq_iff_eq, beq_iff_eq]
  omega
/-- How many edges impl's list has. -/
def eZ (n : Int) (s : List UInt8) : Nat := if fitB n s = true then eN n.toNat else 0
theorem eZ_le (n : Int) (s : List UInt8) : eZ n s ≤ 15 := by
  unfold eZ
  split
  · rename_i hf
    obtain ⟨h, h6⟩ := fitB_n hf
    obtain ⟨h3, -⟩ := aciB_n h
    have : ∀ m, m ≤ 6 → eN m ≤ 15 := by decide
    exact this _ (by omega)
  · omega
/-- impl's test is spec's. -/
theorem it_is (n : Int) (s : List UInt8) (e : Int) : ((e != 0) && (((uncZ (cS n.toNat s) (eZ n s) e : Nat) : Int) == e)) = itB n s e := by
  by_cases hf : fitB n s = true
  · have he : eZ n s = eN n.toNat := by unfold eZ; rw [if_pos hf]
    obtain ⟨h, h6⟩ := fitB_n hf
    obtain ⟨h3, -⟩ := aciB_n h
    obtain ⟨m, rfl⟩ : ∃ m : Nat, n = m := ⟨n.toNat, by omega⟩
    rw [he, Int.toNat_natCast]
    have hE := eN_bd m (by omega)
    have hpE := Nat.pow_le_pow_right (n := 2) (by omega) hE
    have hE0 : 0 < eN m := by
      have : ∀ k, k < 7 → 3 ≤ k → 0 < eN k := by decide
      exact this m (by omega) (by omega)
    obtain ⟨K, hK, -, hK2⟩ := allZ_nat6 (n := m) (by omega) (by omega)
    unfold itB
    rw [hf, Bool.true_and, hK, Int.toNat_natCast]
    by_cases hr : 0 ≤ e ∧ e < ((2 ^ eN m : Nat) : Int)
    · obtain ⟨T, rfl⟩ : ∃ T : Nat, e = T := ⟨e.toNat, by omega⟩
      have hT : T < 2 ^ eN m := by omega
      rw [inB_yes (by omega) (by omega), Bool.true_and, Int.toNat_natCast, uncZ_N (cS_lt (by omega) s) (by omega), Bool.eq_iff_iff, Bool.and_eq_true, bne_iff_ne, beq_iff_eq]
      constructor
      · rintro ⟨-, h2⟩
        exact (unc_full hT).1 (by omega)
      · intro h1
        refine ⟨fun h0 => ?_, by have := (unc_full hT).2 h1; omega⟩
        obtain rfl : T = 0 := by omega
        have := fullB_iff.1 h1 0 hE0
        rw [Nat.zero_testBit, Nat.and_zero] at this
        cases this
    · have h1 : inB e 0 (K : Int) = false := by
        cases hb : inB e 0 (K : Int)
        · rfl
        · have := inB_mem hb; omega
      have h2 := setN_lt (uncQ (cS m s) e) (eN m)
      have h3 : (((uncZ (cS m s) (eN m) e : Nat) : Int) == e) = false := by
        rw [beq_eq_false_iff_ne]
        unfold uncZ
        omega
      rw [h1, h3, Bool.and_false, Bool.false_and]
  · have he : eZ n s = 0 := by unfold eZ; rw [if_neg hf]
    have hf : fitB n s = false := by simpa using hf
    rw [he]
    unfold itB
    rw [hf, Bool.false_and]
    show ((e != 0) && ((0 : Int) == e)) = false
    by_cases h0 : e = 0
    · subst h0; rfl
    · have : ((0 : Int) == e) = false := beq_eq_false_iff_ne.2 (fun h => h0 h.symm)
      rw [this, Bool.and_false]
set_option maxHeartbeats 800000 in
set_option maxRecDepth 100000 in
theorem unc_any (E : Nat) (hE : E ≤ 21) (c : Nat → Nat) (_hc : ∀ x, c x < 2097152) (T : Int) (a : Option Addr) (cc : Nat) (w : World) (hr : RdL w a (crTo c E)) :
    Calls Tryz.prog 150 #[.slice a E cc, .int .i64 T] w fun e w' => e = .returned (.int .i64 (uncZ c E T : Nat)) ∧ w = w' := by
  have HR : Hid (∀ k, k < E → ∃ g, a = some ⟨g, 0, none⟩ ∧ w.cell? ⟨g, k, none⟩ = some (.int .i64 (c k : Nat))) := Lib.hid (fun k hk => by
    obtain ⟨g, h1, h2⟩ := hr k (by rw [crTo_len]; exact hk)
    rw [crTo_get c hk] at h2
    exact ⟨g, h1, h2⟩)
  have HO : Hid (∀ k, uncQ c T k = true → setN (uncQ c T) (k + 1) = setN (uncQ c T) k ||| 2 ^ k) := Lib.hid (fun k h => setN_or h)
  have HN : Hid (∀ k, uncQ c T k = false → setN (uncQ c T) (k + 1) = setN (uncQ c T) k) := Lib.hid (fun k h => setN_no h)
  have HL : Hid (∀ k, k ≤ 21 → setN (uncQ c T) k < 2097152) := Lib.hid (fun k h => setN_ltT _ h)
  have H0 : Hid (setN (uncQ c T) 0 = 0) := Lib.hid rfl
  have HQ : Hid (∀ k, uncQ c T k = (bits BinOp.and IntKind.i64 T (c k : Nat) == 0)) := Lib.hid (fun _ => rfl)
  unfold uncZ
  generalize setN (uncQ c T) = st at HO HN HL H0 ⊢
  generalize uncQ c T = q at HO HN HQ
  clear hr
  go_enter Tryz.func150, Tryz.ntmps150
  go_wp2
  go_loopw [5, 10] (fun ov kv wr => ∃ k t : Nat, k ≤ E ∧ kv = .int .i64 k ∧ ov = .int .i64 t ∧ t < 2097152 ∧ Hid (t = st k) ∧ wr = w) (fun _ kv _ => E - (intOf kv).toNat)
  case atStart => exact ⟨0, 0, Nat.zero_le _, rfl, rfl, by omega, Lib.hid H0.out.symm, rfl⟩
  case round =>
    obtain ⟨k, t, hk, rfl, rfl, ht, HTT, rfl⟩ := hrel
    by_cases hlt : k < E
    · obtain ⟨g, rfl, hcell⟩ := HR.out k hlt
      have hQ := HQ.out k
      have hl1 := HL.out (k + 1) (by omega)
      obtain ⟨s1, p1⟩ := shl_edge k (by omega)
      have o1 := bits_orE t (2 ^ k) ht p1
      have HTK : Hid (q k = true → st (k + 1) = t ||| 2 ^ k) := Lib.hid (fun e => by rw [HO.out k e, HTT.out])
      have HTN : Hid (q k = false → st (k + 1) = t) := Lib.hid (fun e => by rw [HN.out k e, HTT.out])
      generalize t ||| 2 ^ k = o at o1 HTK
      generalize (2 : Nat) ^ k = P at s1 o1 p1
      generalize c k = d at hcell hQ
      cases hb : (bits BinOp.and IntKind.i64 T (d : Int) == 0)
      · rw [hb] at hQ
        have HR2 := Lib.hid (HTN.out hQ)
        clear hQ
        go_wp2
        exact ⟨⟨k + 1, t, by omega, by go_num, by trivial, ht, Lib.hid HR2.out.symm, by trivial⟩, by simp only [intOf]; omega⟩
      · rw [hb] at hQ
        have HR2 := Lib.hid (HTK.out hQ)
        have ho : o < 2097152 := by rw [← HR2.out]; exact hl1
        clear hQ
        go_wp2
        exact ⟨⟨k + 1, o, by omega, by go_num, by trivial, ho, Lib.hid HR2.out.symm, by trivial⟩, by simp only [intOf]; omega⟩
    · obtain rfl : k = E := by omega
      go_wp2
      go_ret
      exact ⟨ret_int (by rw [HTT.out]), rfl⟩
set_option maxHeartbeats 800000 in
set_option maxRecDepth 100000 in
theorem isTri_any (E : Nat) (hE : E ≤ 21) (c : Nat → Nat) (hc : ∀ x, c x < 2097152) (T : Int) (a : Option Addr) (cc : Nat) (w : World) (hr : RdL w a (crTo c E)) :
    Calls Tryz.prog 110 #[.slice a E cc, .int .i64 T] w fun e w' => e = .returned (.bool ((T != 0) && (((uncZ c E T : Nat) : Int) == T))) ∧ w = w' := by
  have HC := Lib.hid (unc_any E hE c hc T a cc w hr)
  generalize uncZ c E T = u at HC ⊢
  clear hr
  cases h0 : (T != 0)
  · rw [Bool.false_and]
    clear HC
    go_enter Tryz.func110, Tryz.ntmps110
    go_wp2
    go_ret
    exact ⟨rfl, rfl⟩
  · rw [Bool.true_and]
    go_enter Tryz.func110, Tryz.ntmps110
    go_wp2_with fail
    refine HC.out.mono ?_
    rintro e w' ⟨rfl, rfl⟩
    go_wp2
    go_ret
    exact ⟨rfl, rfl⟩
/-- What impl's list of crossing sets reads as. -/
def CrL (w : World) (v : Value) (n : Int) (s : List UInt8) : Prop := ∃ a cc, v = .slice a (eZ n s) cc ∧ RdL w a (crTo (cS n.toNat s) (eZ n s))
theorem CrL.on {w w' : World} {v : Value} {n : Int} {s : List UInt8} (h : CrL w v n s) (hb : Below w.heap.size w w') : CrL w' v n s := by
  obtain ⟨a, cc, e, hr⟩ := h
  exact ⟨a, cc, e, hr.on hb⟩
theorem cS_ltZ (n : Int) (s : List UInt8) (hf : fitB n s = true) (x : Nat) : cS n.toNat s x < 2097152 := by
  obtain ⟨h, h6⟩ := fitB_n hf
  obtain ⟨h3, -⟩ := aciB_n h
  exact cS_lt (by omega) s x
/-- The sets that cross each edge; none where there are no triangulations. -/
def cZ (n : Int) (s : List UInt8) : Nat → Nat := if fitB n s = true then cS n.toNat s else fun _ => 0
theorem cZ_lt (n : Int) (s : List UInt8) (x : Nat) : cZ n s x < 2097152 := by
  unfold cZ
  split
  · rename_i hf; exact cS_ltZ n s hf x
  · show (0 : Nat) < 2097152
    omega
theorem cZ_to (n : Int) (s : List UInt8) : crTo (cS n.toNat s) (eZ n s) = crTo (cZ n s) (eZ n s) := by
  unfold cZ
  split
  · rfl
  · rename_i hf
    unfold eZ
    rw [if_neg hf]
    unfold crTo
    rw [List.range_zero, List.map_nil, List.map_nil]
theorem isTri_is (n : Int) (s : List UInt8) (T : Int) (v : Value) (w : World) (hv : CrL w v n s) :
    Calls Tryz.prog 110 #[v, .int .i64 T] w fun e w' => e = .returned (.bool (itB n s T)) ∧ w = w' := by
  obtain ⟨a, cc, rfl, hr⟩ := hv
  rw [cZ_to] at hr
  have := isTri_any (eZ n s) (Nat.le_trans (eZ_le n s) (by omega)) (cZ n s) (cZ_lt n s) T a cc w hr
  have e : uncZ (cZ n s) (eZ n s) T = uncZ (cS n.toNat s) (eZ n s) T := by
    unfold cZ
    split
    · rfl
    · rename_i hf
      unfold eZ uncZ
      rw [if_neg hf]
      unfold setN
      rfl
  rw [e, it_is] at this
  exact this
end Go.Proofs.YtinlnafkmoabbaaGreatDoor.Sg
