/- Several texts in one: CvMath, CvSum, CvFour, CvCap, CvFacts, CvRun, CwSets, CwCap. -/
import Derived.Test.YtflcpgdgoencgaaGreatDoorMgL
import Derived.Test.YtflcpgdgoencgaaGreatDoorMgK
import Derived.Test.YtflcpgdgoencgaaGreatDoorLeHit
import Derived.Test.YtflcpgdgoencgaaGreatDoorMgQ
import Derived.Test.YtflcpgdgoencgaaGreatDoorQuFacts
import Derived.Test.YtflcpgdgoencgaaGreatDoorMgP
/- Convex sets, on plain functions: what is inside a triangle of a set is inside one of its extreme elements; the convex sets that hold no other element inside have an alternating sum. -/
namespace Go.Proofs.YtflcpgdgoencgaaGreatDoor.Sg
/-- Is p inside a triangle of these? -/
def Tri (n : Nat) (s : List UInt8) (X : Nat → Prop) (p : Nat) : Prop := ∃ a b c, X a ∧ X b ∧ X c ∧ In n s p a b c
section
variable {n : Nat} {s : List UInt8}
theorem Tri.mono {X Y : Nat → Prop} {p : Nat} (h : Tri n s X p) (hs : ∀ x, X x → Y x) : Tri n s Y p := by
  obtain ⟨a, b, c, ha, hb, hc, hi⟩ := h
  exact ⟨a, b, c, hs a ha, hs b hb, hs c hc, hi⟩
theorem tri_drop (h : aciB n s = true) {X : Nat → Prop} {y p : Nat} (hy : Tri n s X y) (hp : Tri n s (fun z => z = y ∨ X z) p) : Tri n s X p := by
  obtain ⟨d, e, g, hd, he, hg, hi⟩ := hy
  obtain ⟨a, b, c, ha, hb, hc, hin⟩ := hp
  have dd := in_dis h hin
  unfold Dis at dd
  have no : ∀ b c, X b → X c → In n s p y b c → Tri n s X p := fun b c hb hc h2 => keep_out h X hb hc hd he hg hi h2
  rcases ha with rfl | ha
  · exact no b c (hb.resolve_left (by omega)) (hc.resolve_left (by omega)) hin
  · rcases hb with rfl | hb
    · exact no a c ha (hc.resolve_left (by omega)) (in_s1 h hin)
    · rcases hc with rfl | hc
      · exact no a b ha hb (in_s1 h (in_s2 h hin))
      · exact ⟨a, b, c, ha, hb, hc, hin⟩
theorem tri_gen (h : aciB n s = true) (E : Nat → Prop) : ∀ R : List Nat, (∀ y ∈ R, Tri n s (fun z => E z ∨ z ∈ R) y) → ∀ p, Tri n s (fun z => E z ∨ z ∈ R) p → Tri n s E p
  | [], _, p, hp => hp.mono fun x hx => by
      rcases hx with hx | hx
      · exact hx
      · cases hx
  | y :: R, hR, p, hp => by
    have fix : ∀ z, (E z ∨ z ∈ y :: R) → z ≠ y → (E z ∨ z ∈ R) := fun z hz hne => by
      rcases hz with hz | hz
      · exact .inl hz
      · rcases List.mem_cons.1 hz with e | e
        · exact absurd e hne
        · exact .inr e
    have hy : Tri n s (fun z => E z ∨ z ∈ R) y := by
      obtain ⟨a, b, c, ha, hb, hc, hi⟩ := hR y List.mem_cons_self
      have dd := in_dis h hi
      unfold Dis at dd
      exact ⟨a, b, c, fix a ha (by omega), fix b hb (by omega), fix c hc (by omega), hi⟩
    have step : ∀ q, Tri n s (fun z => E z ∨ z ∈ y :: R) q → Tri n s (fun z => E z ∨ z ∈ R) q := fun q hq => tri_drop h hy (hq.mono fun z hz => by
      by_cases e : z = y
      · exact .inl e
      · exact .inr (fix z hz e))
    exact tri_gen h E R (fun y' hy' => step y' (hR y' (List.mem_cons_of_mem _ hy'))) p (step p hp)
/-- A set's elements. -/
def Bt (S x : Nat) : Prop := S.testBit x = true
theorem inT_tri (h : aciB n s = true) (S p : Nat) : inT (sgnF (lookS n s)) n S p = true ↔ Tri n s (Bt S) p := inT_iff h S p
theorem inT_no (h : aciB n s = true) {S p : Nat} (hn : ¬ Tri n s (Bt S) p) : inT (sgnF (lookS n s)) n S p = false := by
  cases hc : inT (sgnF (lookS n s)) n S p
  · rfl
  · exact absurd ((inT_tri h S p).1 hc) hn
theorem bit_low {S x : Nat} (hS : S < 2 ^ n) (hx : S.testBit x = true) : x < n := by
  rcases Nat.lt_or_ge x n with h | h
  · exact h
  · rw [Nat.testBit_lt_two_pow (Nat.lt_of_lt_of_le hS (Nat.pow_le_pow_right (by omega) h))] at hx; cases hx
theorem exS_bit (S j : Nat) : (extS (sgnF (lookS n s)) n S).testBit j = (decide (j < n) && (S.testBit j && !inT (sgnF (lookS n s)) n S j)) := extTo_bit _ _ _ _ _
theorem exS_lt (S : Nat) : extS (sgnF (lookS n s)) n S < 2 ^ n := extTo_lt _ _ _ _
theorem exS_sub {S j : Nat} (hj : (extS (sgnF (lookS n s)) n S).testBit j = true) : S.testBit j = true := by
  rw [exS_bit] at hj
  simp only [Bool.and_eq_true] at hj
  exact hj.2.1
/-- Its extreme elements' triangles hold all that its triangles hold. -/
theorem tri_ext (h : aciB n s = true) {S p : Nat} (hS : S < 2 ^ n) (hp : Tri n s (Bt S) p) : Tri n s (Bt (extS (sgnF (lookS n s)) n S)) p := by
  have hsplit : ∀ z, Bt S z → (Bt (extS (sgnF (lookS n s)) n S) z ∨ z ∈ (List.range n).filter fun j => S.testBit j && inT (sgnF (lookS n s)) n S j) := fun z hz => by
    have hzn := bit_low hS hz
    cases hc : inT (sgnF (lookS n s)) n S z
    · left
      unfold Bt at hz ⊢
      rw [exS_bit, hz, hc]
      simp [hzn]
    · right
      unfold Bt at hz
      exact List.mem_filter.2 ⟨List.mem_range.2 hzn, by rw [hz, hc]; rfl⟩
  refine tri_gen h _ ((List.range n).filter fun j => S.testBit j && inT (sgnF (lookS n s)) n S j) (fun y hy => ?_) p (hp.mono hsplit)
  have hy := (List.mem_filter.1 hy).2
  simp only [Bool.and_eq_true] at hy
  exact ((inT_tri h S y).1 hy.2).mono hsplit
/-- The first element inside an extreme elements' triangle. -/
def cndT (F : Int → Int → Int → Int) (n E t : Nat) : Bool := !E.testBit t && inT F n E t
def tgT (F : Int → Int → Int → Int) (n E : Nat) : Option Nat := (List.range n).find? (cndT F n E)
theorem tog_ext (h : aciB n s = true) {S t : Nat} (hS : S < 2 ^ n) (ht : tgT (sgnF (lookS n s)) n (extS (sgnF (lookS n s)) n S) = some t) :
    t < n ∧ S ^^^ 2 ^ t < 2 ^ n ∧ extS (sgnF (lookS n s)) n (S ^^^ 2 ^ t) = extS (sgnF (lookS n s)) n S := by
  have hc := List.find?_some ht
  have htn := List.mem_range.1 (List.mem_of_find?_eq_some ht)
  unfold cndT at hc
  simp only [Bool.and_eq_true, Bool.not_eq_true'] at hc
  obtain ⟨hc1, hc2⟩ := hc
  have hE := (inT_tri h _ t).1 hc2
  have hpt : 2 ^ t < 2 ^ n := Nat.pow_lt_pow_right (by omega) htn
  have hlt : S ^^^ 2 ^ t < 2 ^ n := Nat.xor_lt_two_pow hS hpt
  have hbit : ∀ x, (S ^^^ 2 ^ t).testBit x = (S.testBit x ^^ decide (t = x)) := fun x => by
    rw [Nat.testBit_xor, Nat.testBit_two_pow]
  have sub1 : ∀ x, Bt (extS (sgnF (lookS n s)) n S) x → Bt (S ^^^ 2 ^ t) x := fun x hx => by
    have e : t ≠ x := fun e => by subst e; unfold Bt at hx; rw [hc1] at hx; cases hx
    show (S ^^^ 2 ^ t).testBit x = true
    rw [hbit, exS_sub hx]
    simp [e]
  have tS : Tri n s (Bt S) t := hE.mono fun x hx => exS_sub hx
  have iff : ∀ j, inT (sgnF (lookS n s)) n (S ^^^ 2 ^ t) j = inT (sgnF (lookS n s)) n S j := fun j => by
    rw [Bool.eq_iff_iff, inT_tri h, inT_tri h]
    constructor
    · intro hj
      refine tri_drop h tS (hj.mono fun x hx => ?_)
      by_cases e : x = t
      · exact .inl e
      · right
        have hx : (S ^^^ 2 ^ t).testBit x = true := hx
        rw [hbit] at hx
        have e2 : ¬ t = x := fun e2 => e e2.symm
        show S.testBit x = true
        simpa [e2] using hx
    · intro hj
      exact (tri_ext h hS hj).mono sub1
  refine ⟨htn, hlt, set_ext (exS_lt _) (exS_lt _) fun x hx => ?_⟩
  rw [exS_bit, exS_bit, iff x, hbit]
  by_cases e : t = x
  · subst e
    rw [(inT_tri h S t).2 tS]
    simp
  · simp [e]
/-- Convex sets that hold no other element inside. -/
def freeB (F : Int → Int → Int → Int) (n S : Nat) : Bool := (extS F n S == S) && (List.range n).all fun p => S.testBit p || !inT F n S p
theorem free_iff (h : aciB n s = true) {S : Nat} (hS : S < 2 ^ n) : freeB (sgnF (lookS n s)) n S = true ↔ tgT (sgnF (lookS n s)) n (extS (sgnF (lookS n s)) n S) = none := by
  unfold freeB tgT
  rw [Bool.and_eq_true, beq_iff_eq, List.all_eq_true, List.find?_eq_none]
  constructor
  · rintro ⟨he, hall⟩ t ht
    rw [he]
    have := hall t ht
    unfold cndT
    intro hc
    simp only [Bool.and_eq_true, Bool.not_eq_true'] at hc
    rw [hc.1, hc.2] at this
    cases this
  · intro hno
    have hno : ∀ t, t < n → (extS (sgnF (lookS n s)) n S).testBit t = false → ¬ Tri n s (Bt (extS (sgnF (lookS n s)) n S)) t := fun t ht h1 h2 => by
      refine hno t (List.mem_range.2 ht) ?_
      unfold cndT
      rw [h1, (inT_tri h _ t).2 h2]; rfl
    have he : extS (sgnF (lookS n s)) n S = S := set_ext (exS_lt _) hS fun x hx => by
      cases hb : S.testBit x
      · cases hb2 : (extS (sgnF (lookS n s)) n S).testBit x
        · rfl
        · rw [exS_sub hb2] at hb; cases hb
      · cases hb2 : (extS (sgnF (lookS n s)) n S).testBit x
        · exfalso
          have hb3 := hb2
          rw [exS_bit, hb] at hb3
          simp [hx] at hb3
          exact hno x hx hb2 (tri_ext h hS ((inT_tri h S x).1 hb3))
        · rfl
    refine ⟨he, fun p hp => ?_⟩
    cases hb : S.testBit p
    · rw [he] at hno
      rw [inT_no h (hno p (List.mem_range.1 hp) hb)]; rfl
    · rfl
/-- Sets of an even number of elements count 1, others -1. -/
def parS (S : Nat) : Int := if pcS S % 2 = 0 then 1 else -1
theorem par_tog0 : ∀ S, S < 128 → ∀ t, t < 7 → (pcS (S ^^^ 2 ^ t) + pcS S) % 2 = 1 := by decide +kernel
theorem par_tog {S t : Nat} (hS : S < 128) (ht : t < 7) : parS (S ^^^ 2 ^ t) = -(parS S) := by
  have := par_tog0 S hS t ht
  unfold parS
  split <;> split <;> omega
theorem perm_sum {f : Nat → Int} {L M : List Nat} (h : L.Perm M) : (L.map f).sum = (M.map f).sum := by
  induction h with
  | nil => rfl
  | cons x _ ih => rw [List.map_cons, List.map_cons, List.sum_cons, List.sum_cons, ih]
  | swap x y L => simp only [List.map_cons, List.sum_cons]; omega
  | trans _ _ h1 h2 => exact h1.trans h2
theorem sum_neg (f : Nat → Int) : ∀ L : List Nat, (L.map fun x => -(f x)).sum = -((L.map f).sum)
  | [] => rfl
  | x :: L => by rw [List.map_cons, List.map_cons, List.sum_cons, List.sum_cons, sum_neg f L]; omega
/-- A sum over what an involution pairs off. -/
theorem sum_inv {f : Nat → Int} {τ : Nat → Nat} {L : List Nat} (hd : L.Nodup) (hm : ∀ x ∈ L, τ x ∈ L) (hi : ∀ x ∈ L, τ (τ x) = x) (hf : ∀ x ∈ L, f (τ x) = -(f x)) : (L.map f).sum = 0 := by
  have hp : (L.map τ).Perm L := by
    refine (List.perm_ext_iff_of_nodup ?_ hd).2 fun x => ⟨fun hx => ?_, fun hx => ?_⟩
    · show List.Pairwise _ _
      rw [List.pairwise_map]
      refine List.Pairwise.imp_of_mem (fun {a b} ha hb hab e => hab ?_) hd
      rw [← hi a ha, ← hi b hb, e]
    · obtain ⟨y, hy, rfl⟩ := List.mem_map.1 hx
      exact hm y hy
    · exact List.mem_map.2 ⟨τ x, hm x hx, hi x hx⟩
  have h1 := perm_sum (f := f) hp
  rw [List.map_map] at h1
  have h2 : (L.map (f ∘ τ)).sum = (L.map fun x => -(f x)).sum := by
    congr 1
    exact List.map_congr_left fun x hx => hf x hx
  rw [h2, sum_neg] at h1
  omega
theorem xor_two (S t : Nat) : S ^^^ 2 ^ t ^^^ 2 ^ t = S := by rw [Nat.xor_assoc, Nat.xor_self, Nat.xor_zero]
theorem sum_split (f : Nat → Int) (q : Nat → Bool) : ∀ L : List Nat, (L.map f).sum = ((L.filter q).map f).sum + ((L.filter fun x => !q x).map f).sum
  | [] => rfl
  | x :: L => by
    have ih := sum_split f q L
    cases h : q x <;> simp [h, ih] <;> omega
/-- The alternating sum of free sets is nothing. -/
theorem free_sum (h : aciB n s = true) : (((List.range (2 ^ n)).filter (freeB (sgnF (lookS n s)) n)).map parS).sum = 0 := by
  obtain ⟨h3, h7⟩ := aciB_n h
  have h7 : n ≤ 7 := by omega
  have hp := pow_le7 h7
  have h1 : ((List.range (2 ^ n)).map parS).sum = 0 := by
    refine sum_inv (τ := fun S => S ^^^ 2 ^ 0) List.nodup_range (fun x hx => ?_) (fun x _ => xor_two x 0) (fun x hx => ?_)
    · exact List.mem_range.2 (Nat.xor_lt_two_pow (List.mem_range.1 hx) (Nat.pow_lt_pow_right (by omega) (by omega)))
    · have := List.mem_range.1 hx
      exact par_tog (by omega) (by omega)
  have h2 : (((List.range (2 ^ n)).filter fun x => !freeB (sgnF (lookS n s)) n x).map parS).sum = 0 := by
    have key : ∀ x ∈ (List.range (2 ^ n)).filter (fun x => !freeB (sgnF (lookS n s)) n x), x < 2 ^ n ∧ ∃ t, tgT (sgnF (lookS n s)) n (extS (sgnF (lookS n s)) n x) = some t := fun x hx => by
      obtain ⟨a, b⟩ := List.mem_filter.1 hx
      have a := List.mem_range.1 a
      refine ⟨a, ?_⟩
      cases ht : tgT (sgnF (lookS n s)) n (extS (sgnF (lookS n s)) n x) with
      | none => rw [(free_iff h a).2 ht] at b; cases b
      | some t => exact ⟨t, rfl⟩
    refine sum_inv (τ := fun S => match tgT (sgnF (lookS n s)) n (extS (sgnF (lookS n s)) n S) with | some t => S ^^^ 2 ^ t | none => S) (List.nodup_range.filter _) (fun x hx => ?_) (fun x hx => ?_) (fun x hx => ?_)
    · obtain ⟨a, t, ht⟩ := key x hx
      obtain ⟨-, k2, k3⟩ := tog_ext h a ht
      show (match tgT (sgnF (lookS n s)) n (extS (sgnF (lookS n s)) n x) with | some t => x ^^^ 2 ^ t | none => x) ∈ _
      rw [ht]
      refine List.mem_filter.2 ⟨List.mem_range.2 k2, ?_⟩
      cases hc : freeB (sgnF (lookS n s)) n (x ^^^ 2 ^ t)
      · rfl
      · rw [free_iff h k2, k3, ht] at hc; cases hc
    · obtain ⟨a, t, ht⟩ := key x hx
      obtain ⟨-, k2, k3⟩ := tog_ext h a ht
      rw [ht]
      dsimp only
      rw [k3, ht]
      exact xor_two x t
    · obtain ⟨a, t, ht⟩ := key x hx
      obtain ⟨k1, -, -⟩ := tog_ext h a ht
      rw [ht]
      exact par_tog (by omega) (by omega)
  have h3 := sum_split parS (freeB (sgnF (lookS n s)) n) (List.range (2 ^ n))
  omega
end
end Go.Proofs.YtflcpgdgoencgaaGreatDoor.Sg
/- Convex sets, on plain functions: how many empty ones there are, with signs; the convex sets of four elements. -/
namespace Go.Proofs.YtflcpgdgoencgaaGreatDoor.Sg
/-- Convex sets and empty ones, as spec tells them. -/
def cvS (F : Int → Int → Int → Int) (n S : Nat) : Bool := decide (3 ≤ pcS S) && extS F n S == S
def emS (F : Int → Int → Int → Int) (n S : Nat) : Bool := (List.range n).all fun p => S.testBit p || !inT F n S p
theorem free_cv (F : Int → Int → Int → Int) (n S : Nat) (h : 3 ≤ pcS S) : freeB F n S = (cvS F n S && emS F n S) := by
  unfold freeB cvS emS
  rw [decide_eq_true h]; rfl
theorem cp_consV (P : Nat → Bool) (a : Nat) (L : List Nat) : (a :: L).countP P = bit (P a) + L.countP P := by
  rw [List.countP_cons]
  cases h : P a
  · simp [bit]
  · simp [bit]; omega
theorem alt_cnt (q : Nat → Bool) : ∀ L : List Nat, (∀ S ∈ L, pcS S ≤ 7) → ((L.filter q).map parS).sum =
    ((L.countP fun S => pcS S == 0 && q S : Nat) : Int) - (L.countP fun S => pcS S == 1 && q S : Nat) + (L.countP fun S => pcS S == 2 && q S : Nat) - (L.countP fun S => pcS S == 3 && q S : Nat) + (L.countP fun S => pcS S == 4 && q S : Nat) - (L.countP fun S => pcS S == 5 && q S : Nat) + (L.countP fun S => pcS S == 6 && q S : Nat) - (L.countP fun S => pcS S == 7 && q S : Nat)
  | [], _ => rfl
  | S :: L, h => by
    have ih := alt_cnt q L fun x hx => h x (List.mem_cons_of_mem _ hx)
    have h7 := h S List.mem_cons_self
    simp only [cp_consV]
    cases hq : q S
    · rw [List.filter_cons_of_neg (by rw [hq]; decide), ih]
      simp only [Bool.and_false, show bit false = 0 from rfl]
      omega
    · rw [List.filter_cons_of_pos hq, List.map_cons, List.sum_cons, ih]
      unfold parS
      simp only [Bool.and_true]
      rcases (by omega : pcS S = 0 ∨ pcS S = 1 ∨ pcS S = 2 ∨ pcS S = 3 ∨ pcS S = 4 ∨ pcS S = 5 ∨ pcS S = 6 ∨ pcS S = 7) with e | e | e | e | e | e | e | e <;> rw [e] <;> simp [bit] <;> omega
section
variable {n : Nat} {s : List UInt8}
theorem tri_three (h : aciB n s = true) {S p : Nat} (hp : inT (sgnF (lookS n s)) n S p = true) : 3 ≤ pcS S := by
  obtain ⟨h3, h7⟩ := aciB_n h
  obtain ⟨a, b, c, ha, hb, hc, hi⟩ := (inT_tri h S p).1 hp
  have dd := in_dis h hi
  unfold Dis at dd
  rw [pcS_eq, List.countP_eq_length_filter]
  refine nodup_sub [a, b, c] _ (by simp; omega) fun x hx => ?_
  simp only [List.mem_cons, List.not_mem_nil, or_false] at hx
  rcases hx with rfl | rfl | rfl
  · exact List.mem_filter.2 ⟨List.mem_range.2 (by omega), ha⟩
  · exact List.mem_filter.2 ⟨List.mem_range.2 (by omega), hb⟩
  · exact List.mem_filter.2 ⟨List.mem_range.2 (by omega), hc⟩
theorem free_small (h : aciB n s = true) {S : Nat} (hS : S < 2 ^ n) (h2 : pcS S ≤ 2) : freeB (sgnF (lookS n s)) n S = true := by
  have hno : ∀ p, inT (sgnF (lookS n s)) n S p = false := fun p => by
    cases hc : inT (sgnF (lookS n s)) n S p
    · rfl
    · have := tri_three h hc; omega
  unfold freeB
  rw [Bool.and_eq_true, beq_iff_eq, List.all_eq_true]
  refine ⟨set_ext (exS_lt _) hS fun x hx => ?_, fun p _ => by rw [hno p]; simp⟩
  rw [exS_bit, hno x]
  simp [hx]
theorem small_counts : ∀ n, n < 8 → (List.range (2 ^ n)).countP (fun S => pcS S == 0) = 1 ∧ (List.range (2 ^ n)).countP (fun S => pcS S == 1) = n ∧ (List.range (2 ^ n)).countP (fun S => pcS S == 2) = n * (n - 1) / 2 := by decide +kernel
/-- How many empty sets of k elements. -/
def emN (F : Int → Int → Int → Int) (n k : Nat) : Nat := (List.range (2 ^ n)).countP fun S => pcS S == k && (cvS F n S && emS F n S)
theorem em_free (k : Nat) (hk : 3 ≤ k) : (List.range (2 ^ n)).countP (fun S => pcS S == k && freeB (sgnF (lookS n s)) n S) = emN (sgnF (lookS n s)) n k := by
  unfold emN
  refine List.countP_congr fun S _ => ?_
  cases hp : (pcS S == k)
  · simp
  · have hp := eq_of_beq hp
    rw [free_cv _ _ _ (by omega)]
theorem free_low (h : aciB n s = true) (k : Nat) (hk : k ≤ 2) : (List.range (2 ^ n)).countP (fun S => pcS S == k && freeB (sgnF (lookS n s)) n S) = (List.range (2 ^ n)).countP fun S => pcS S == k := by
  refine List.countP_congr fun S hS => ?_
  cases hp : (pcS S == k)
  · simp
  · have hp := eq_of_beq hp
    rw [free_small h (List.mem_range.1 hS) (by omega)]
    simp
/-- The alternating sum of the empty sets' numbers. -/
theorem em_alt (h : aciB n s = true) : (emN (sgnF (lookS n s)) n 3 : Int) - emN (sgnF (lookS n s)) n 4 + emN (sgnF (lookS n s)) n 5 - emN (sgnF (lookS n s)) n 6 + emN (sgnF (lookS n s)) n 7 = ((n * (n - 1) / 2 : Nat) : Int) - n + 1 := by
  obtain ⟨h3, h7⟩ := aciB_n h
  have h7 : n ≤ 7 := by omega
  have hs := free_sum h
  rw [alt_cnt _ _ fun S _ => pcS_le S] at hs
  rw [free_low h 0 (by omega), free_low h 1 (by omega), free_low h 2 (by omega), em_free 3 (by omega), em_free 4 (by omega), em_free 5 (by omega), em_free 6 (by omega), em_free 7 (by omega)] at hs
  obtain ⟨k0, k1, k2⟩ := small_counts n (by omega)
  rw [k0, k1, k2] at hs
  omega
theorem pcS_low (n S : Nat) (hS : S < 2 ^ n) : pcS S ≤ n := by
  rw [pcS_eq, List.countP_eq_length_filter]
  refine Nat.le_trans (nodup_sub _ (List.range n) (List.nodup_range.filter _) fun x hx => ?_) (by simp)
  exact List.mem_range.2 (bit_low hS (List.mem_filter.1 hx).2)
/-- There are none of more elements than there are. -/
theorem em_none (F : Int → Int → Int → Int) {k : Nat} (hk : n < k) : emN F n k = 0 := by
  unfold emN
  rw [List.countP_eq_zero]
  intro S hS
  have := pcS_low n S (List.mem_range.1 hS)
  have e : (pcS S == k) = false := beq_eq_false_iff_ne.2 (by omega)
  rw [e]; simp
end
/-- What EvenSum adds up before k. -/
def evTo (c : Nat → Nat) : Nat → Int
  | 0 => 0
  | k + 1 => evTo c k + (if k < 3 then 0 else if k % 2 = 1 then (c k : Int) else -(c k : Int))
theorem ev_all {n : Nat} {s : List UInt8} (h : aciB n s = true) : evTo (emN (sgnF (lookS n s)) n) (n + 1) = ((n * (n - 1) / 2 : Nat) : Int) - n + 1 := by
  obtain ⟨h3, h7⟩ := aciB_n h
  have hz := fun k hk => em_none (n := n) (sgnF (lookS n s)) (k := k) hk
  have ha := em_alt h
  generalize emN (sgnF (lookS n s)) n = c at ha hz ⊢
  rcases (by omega : n = 3 ∨ n = 4 ∨ n = 5 ∨ n = 6 ∨ n = 7) with rfl | rfl | rfl | rfl | rfl
  · have e4 := hz 4 (by omega); have e5 := hz 5 (by omega); have e6 := hz 6 (by omega); have e7 := hz 7 (by omega)
    simp [evTo]; simp at ha; omega
  · have e5 := hz 5 (by omega); have e6 := hz 6 (by omega); have e7 := hz 7 (by omega)
    simp [evTo]; simp at ha; omega
  · have e6 := hz 6 (by omega); have e7 := hz 7 (by omega)
    simp [evTo]; simp at ha; omega
  · have e7 := hz 7 (by omega)
    simp [evTo]; simp at ha; omega
  · simp [evTo]; simp at ha; omega
/-- The convex sets of four elements are as many as the fours without an inner element. -/
def cvN (F : Int → Int → Int → Int) (n k : Nat) : Nat := (List.range (2 ^ n)).countP fun S => pcS S == k && cvS F n S
def setT (t : T4) : Nat := 2 ^ t.1 + 2 ^ t.2.1 + 2 ^ t.2.2.1 + 2 ^ t.2.2.2
theorem fours_sets0 : ∀ n, n < 8 → ((List.range (2 ^ n)).filter fun S => pcS S == 4).isPerm ((fours n).map setT) = true := by decide +kernel
end Go.Proofs.YtflcpgdgoencgaaGreatDoor.Sg
/- Convex sets, on plain functions: those of four elements; the largest one. -/
namespace Go.Proofs.YtflcpgdgoencgaaGreatDoor.Sg
section
variable {n : Nat} {s : List UInt8}
theorem in_bools (h : aciB n s = true) {a b c d : Nat} (h1 : a < b) (h2 : b < c) (h3 : c < d) (h4 : d < n) : ∃ w x y z : Bool, cir (sgnF (lookS n s)) a b c d = cv4 (sg1 w) (sg1 x) (sg1 y) (sg1 z) ∧
    (In n s a b c d ↔ ((x == w) && (y == !w) && (z == w)) = true) ∧ (In n s b a c d ↔ ((w == x) && ((!y) == !x) && ((!z) == x)) = true) ∧ (In n s c a b d ↔ (((!w) == y) && ((!x) == !y) && (z == y)) = true) ∧ (In n s d a b c ↔ ((w == z) && (x == !z) && (y == z)) = true) := by
  have O := om_sgn h
  obtain ⟨w, e0⟩ := O.one (a := b) (b := c) (c := d) (by omega) (by omega) h4 (by omega) (by omega) (by omega)
  obtain ⟨x, e1⟩ := O.one (a := a) (b := c) (c := d) (by omega) (by omega) h4 (by omega) (by omega) (by omega)
  obtain ⟨y, e2⟩ := O.one (a := a) (b := b) (c := d) (by omega) (by omega) h4 (by omega) (by omega) (by omega)
  obtain ⟨z, e3⟩ := O.one (a := a) (b := b) (c := c) (by omega) (by omega) (by omega) (by omega) (by omega) (by omega)
  have r1 := O.s1 (a := a) (b := b) (c := d) (by omega) (by omega) (by omega)
  have r2 := O.s1 (a := a) (b := b) (c := c) (by omega) (by omega) (by omega)
  have r3 := O.s1 (a := b) (b := c) (c := d) (by omega) (by omega) (by omega)
  have r4 := O.s1 (a := a) (b := c) (c := d) (by omega) (by omega) (by omega)
  have r5 := rot (lookS n s) (a := (a : Int)) (b := b) (c := c) (by omega) (by omega) (by omega)
  have r6 := rot (lookS n s) (a := (b : Int)) (b := c) (c := d) (by omega) (by omega) (by omega)
  have r7 := rot (lookS n s) (a := (a : Int)) (b := c) (c := d) (by omega) (by omega) (by omega)
  have r8 := rot (lookS n s) (a := (a : Int)) (b := b) (c := d) (by omega) (by omega) (by omega)
  unfold sgS at e0 e1 e2 e3 r1 r2 r3 r4
  rw [e2, sg1_neg] at r1
  rw [e3, sg1_neg] at r2
  rw [e0, sg1_neg] at r3
  rw [e1, sg1_neg] at r4
  rw [e3] at r5
  rw [e0] at r6
  rw [e1] at r7
  rw [e2] at r8
  refine ⟨w, x, y, z, cir_of e0 e1 e2 e3, ?_, ?_, ?_, ?_⟩
  · unfold In; rw [cir_of e0 e1 e2 e3]; exact (by rw [← isIn_v w x y z]; rfl)
  · unfold In; rw [cir_of e1 e0 r1 r2]; exact (by rw [← isIn_v x w (!y) (!z)]; rfl)
  · unfold In; rw [cir_of e2 r3 r4 r5]; exact (by rw [← isIn_v y (!w) (!x) z]; rfl)
  · unfold In; rw [cir_of e3 r6 r7 r8]; exact (by rw [← isIn_v z w x y]; rfl)
theorem hasI_bools : ∀ w x y z : Bool, patV (cv4 (sg1 w) (sg1 x) (sg1 y) (sg1 z)) = ((((x == w) && (y == !w) && (z == w)) || ((w == x) && ((!y) == !x) && ((!z) == x))) || ((((!w) == y) && ((!x) == !y) && (z == y)) || ((w == z) && (x == !z) && (y == z)))) := by decide +kernel
theorem hasI_yes {f : Int → Int → Int → Int} {a b c d : Nat} (h : patV (cir f a b c d) = true) : hasI f (a, b, c, d) = true := by
  unfold patV at h
  simp only [Bool.or_eq_true, beq_iff_eq] at h
  have na : ((a : Int) == -1) = false := beq_eq_false_iff_ne.2 (by omega)
  have nb : ((b : Int) == -1) = false := beq_eq_false_iff_ne.2 (by omega)
  have nc : ((c : Int) == -1) = false := beq_eq_false_iff_ne.2 (by omega)
  have nd : ((d : Int) == -1) = false := beq_eq_false_iff_ne.2 (by omega)
  unfold hasI
  rcases h with h | h | h | h <;> dsimp only <;> rw [h, inn4_eq] <;> simp <;> omega
theorem has_in (h : aciB n s = true) {a b c d : Nat} (h1 : a < b) (h2 : b < c) (h3 : c < d) (h4 : d < n) : hasI (sgnF (lookS n s)) (a, b, c, d) = true ↔ (In n s a b c d ∨ In n s b a c d) ∨ In n s c a b d ∨ In n s d a b c := by
  obtain ⟨w, x, y, z, e, i1, i2, i3, i4⟩ := in_bools h h1 h2 h3 h4
  have hp : hasI (sgnF (lookS n s)) (a, b, c, d) = patV (cir (sgnF (lookS n s)) a b c d) := by
    cases hc : patV (cir (sgnF (lookS n s)) a b c d)
    · exact hasI_pat hc
    · exact hasI_yes hc
  rw [hp, e, hasI_bools, i1, i2, i3, i4]
  simp only [Bool.or_eq_true]
theorem setT_bits : ((fours 7).all fun t => pcS (setT t) == 4 && ((List.range 7).all fun x => (setT t).testBit x == (x == t.1 || (x == t.2.1 || (x == t.2.2.1 || x == t.2.2.2))))) = true := by decide +kernel
theorem setT_bit {t : T4} (h7 : n ≤ 7) (ht : t ∈ fours n) : pcS (setT t) = 4 ∧ setT t < 2 ^ n ∧ ∀ x, (setT t).testBit x = true ↔ x = t.1 ∨ x = t.2.1 ∨ x = t.2.2.1 ∨ x = t.2.2.2 := by
  obtain ⟨h1, h2, h3, h4⟩ := fours_mem h7 ht
  have key := List.all_eq_true.1 setT_bits t (by obtain ⟨a, b, c, d⟩ := t; exact fours_has (by omega) h1 h2 h3 (by show d < 7; have h4 : d < n := h4; omega))
  simp only [Bool.and_eq_true, beq_iff_eq, List.all_eq_true, List.mem_range] at key
  have e0 : 2 ^ (t.1 + 1) ≤ 2 ^ t.2.1 := Nat.pow_le_pow_right (by omega) (by omega)
  have e1 : 2 ^ (t.2.1 + 1) ≤ 2 ^ t.2.2.1 := Nat.pow_le_pow_right (by omega) (by omega)
  have e2 : 2 ^ (t.2.2.1 + 1) ≤ 2 ^ t.2.2.2 := Nat.pow_le_pow_right (by omega) (by omega)
  have e3 : 2 ^ (t.2.2.2 + 1) ≤ 2 ^ n := Nat.pow_le_pow_right (by omega) (by omega)
  rw [Nat.pow_succ] at e0 e1 e2 e3
  have hp := Nat.pow_pos (n := t.1) (show 0 < 2 by omega)
  have hlt : setT t < 2 ^ n := by unfold setT; omega
  refine ⟨key.1, hlt, fun x => ?_⟩
  rcases Nat.lt_or_ge x 7 with hx | hx
  · rw [key.2 x hx]
    simp only [Bool.or_eq_true, beq_iff_eq]
  · constructor
    · intro hb
      have := bit_low hlt hb
      omega
    · intro hb
      omega
theorem in_perm (h : aciB n s = true) {p b c d x y z : Nat} (hx : x = b ∨ x = c ∨ x = d) (hy : y = b ∨ y = c ∨ y = d) (hz : z = b ∨ z = c ∨ z = d) (hi : In n s p x y z) : In n s p b c d := by
  have dd := in_dis h hi
  unfold Dis at dd
  rcases hx with hx | hx | hx
  · rcases hy with hy | hy | hy
    · exfalso; omega
    · rcases hz with hz | hz | hz
      · exfalso; omega
      · exfalso; omega
      · subst hx hy hz; exact hi
    · rcases hz with hz | hz | hz
      · exfalso; omega
      · subst hx hy hz; exact in_s2 h hi
      · exfalso; omega
  · rcases hy with hy | hy | hy
    · rcases hz with hz | hz | hz
      · exfalso; omega
      · exfalso; omega
      · subst hx hy hz; exact in_s1 h hi
    · exfalso; omega
    · rcases hz with hz | hz | hz
      · subst hx hy hz; exact in_s1 h (in_s2 h hi)
      · exfalso; omega
      · exfalso; omega
  · rcases hy with hy | hy | hy
    · rcases hz with hz | hz | hz
      · exfalso; omega
      · subst hx hy hz; exact in_s2 h (in_s1 h hi)
      · exfalso; omega
    · rcases hz with hz | hz | hz
      · subst hx hy hz; exact in_s1 h (in_s2 h (in_s1 h hi))
      · exfalso; omega
      · exfalso; omega
    · exfalso; omega
theorem cv_four (h : aciB n s = true) {t : T4} (ht : t ∈ fours n) : cvS (sgnF (lookS n s)) n (setT t) = !hasI (sgnF (lookS n s)) t := by
  have h7 := (aciB_n h).2
  obtain ⟨hp, hlt, hb⟩ := setT_bit (n := n) (by omega) ht
  obtain ⟨h1, h2, h3, h4⟩ := fours_mem (show n ≤ 7 by omega) ht
  obtain ⟨a, b, c, d⟩ := t
  dsimp only at h1 h2 h3 h4 hb
  have hin := has_in h h1 h2 h3 h4
  have hb : ∀ x, Bt (setT (a, b, c, d)) x ↔ x = a ∨ x = b ∨ x = c ∨ x = d := hb
  have tri : ∀ j, Tri n s (Bt (setT (a, b, c, d))) j → Bt (setT (a, b, c, d)) j → hasI (sgnF (lookS n s)) (a, b, c, d) = true := fun j ⟨x, y, z, hx, hy, hz, hi⟩ hj => by
    rw [hin]
    have dd := in_dis h hi
    unfold Dis at dd
    rw [hb] at hx hy hz hj
    rcases hj with rfl | rfl | rfl | rfl
    · exact .inl (.inl (in_perm h (by omega) (by omega) (by omega) hi))
    · exact .inl (.inr (in_perm h (by omega) (by omega) (by omega) hi))
    · exact .inr (.inl (in_perm h (by omega) (by omega) (by omega) hi))
    · exact .inr (.inr (in_perm h (by omega) (by omega) (by omega) hi))
  unfold cvS
  rw [hp]
  cases hc : hasI (sgnF (lookS n s)) (a, b, c, d)
  · have he : extS (sgnF (lookS n s)) n (setT (a, b, c, d)) = setT (a, b, c, d) := set_ext (exS_lt _) hlt fun x hx => by
      rw [exS_bit]
      cases hbx : (setT (a, b, c, d)).testBit x
      · simp
      · rw [inT_no h fun ht => by rw [tri x ht hbx] at hc; cases hc]
        simp [hx]
    rw [he]
    simp
  · have hne : extS (sgnF (lookS n s)) n (setT (a, b, c, d)) ≠ setT (a, b, c, d) := fun he => by
      have hno : ∀ j, Bt (setT (a, b, c, d)) j → ¬ Tri n s (Bt (setT (a, b, c, d))) j := fun j hj ht => by
        have hj2 := hj
        unfold Bt at hj
        rw [← he, exS_bit, (inT_tri h _ j).2 ht] at hj
        simp at hj
      rcases hin.1 hc with (hi | hi) | hi | hi
      · exact hno a ((hb a).2 (by omega)) ⟨b, c, d, (hb b).2 (by omega), (hb c).2 (by omega), (hb d).2 (by omega), hi⟩
      · exact hno b ((hb b).2 (by omega)) ⟨a, c, d, (hb a).2 (by omega), (hb c).2 (by omega), (hb d).2 (by omega), hi⟩
      · exact hno c ((hb c).2 (by omega)) ⟨a, b, d, (hb a).2 (by omega), (hb b).2 (by omega), (hb d).2 (by omega), hi⟩
      · exact hno d ((hb d).2 (by omega)) ⟨a, b, c, (hb a).2 (by omega), (hb b).2 (by omega), (hb c).2 (by omega), hi⟩
    rw [beq_eq_false_iff_ne.2 hne]
    simp
/-- As many convex sets of four as fours without an inner element. -/
theorem cv_quads (h : aciB n s = true) : ((cvN (sgnF (lookS n s)) n 4 : Nat) : Int) = quadsN n s := by
  have h7 := (aciB_n h).2
  have hp : ((List.range (2 ^ n)).filter fun S => pcS S == 4).Perm ((fours n).map setT) := List.isPerm_iff.1 (fours_sets0 n (by omega))
  have e1 : cvN (sgnF (lookS n s)) n 4 = ((List.range (2 ^ n)).filter fun S => pcS S == 4).countP (cvS (sgnF (lookS n s)) n) := by
    unfold cvN
    rw [List.countP_filter]
    refine List.countP_congr fun S _ => ?_
    simp only [Bool.and_eq_true]
    exact and_comm
  rw [e1, hp.countP_eq, List.countP_map]
  unfold quadsN
  rw [if_pos h, quadsL_yes h]
  unfold quads
  rw [← List.countP_eq_length_filter]
  congr 1
  refine List.countP_congr fun t ht => ?_
  show cvS (sgnF (lookS n s)) n (setT t) = true ↔ _
  rw [cv_four h ht]
/-- The extreme elements are a convex set. -/
theorem cv_hull (h : aciB n s = true) : cvS (sgnF (lookS n s)) n (extS (sgnF (lookS n s)) n (2 ^ n - 1)) = true ∧ ((pcS (extS (sgnF (lookS n s)) n (2 ^ n - 1)) : Nat) : Int) = hszZ n s := by
  have hsz : ((pcS (extS (sgnF (lookS n s)) n (2 ^ n - 1)) : Nat) : Int) = hszZ n s := by
    unfold hszZ allS
    rw [if_pos h, Int.toNat_natCast]
    rfl
  obtain ⟨R, hR, -⟩ := hull_round h
  have h3 := round_three h hR
  rw [round_size h hR] at h3
  refine ⟨?_, hsz⟩
  unfold cvS
  rw [decide_eq_true h3]
  have he : extS (sgnF (lookS n s)) n (extS (sgnF (lookS n s)) n (2 ^ n - 1)) = extS (sgnF (lookS n s)) n (2 ^ n - 1) := set_ext (exS_lt _) (exS_lt _) fun x hx => by
    rw [exS_bit (extS (sgnF (lookS n s)) n (2 ^ n - 1)) x]
    cases hb : (extS (sgnF (lookS n s)) n (2 ^ n - 1)).testBit x
    · simp
    · have hb2 := hb
      rw [exS_bit] at hb2
      simp only [Bool.and_eq_true, Bool.not_eq_true'] at hb2
      rw [inT_no h fun ht => by
        have := (inT_tri h _ x).2 (ht.mono fun y hy => exS_sub hy)
        rw [hb2.2.2] at this; cases this]
      simp [hx]
  rw [he]; simp
end
/-- The largest number not above k that has any. -/
def lcTo (c : Nat → Nat) : Nat → Nat
  | 0 => 0
  | k + 1 => if c (k + 1) = 0 then lcTo c k else k + 1
theorem lcTo_ge {c : Nat → Nat} {k : Nat} (hk : c k ≠ 0) : ∀ m, k ≤ m → k ≤ lcTo c m
  | 0, h => by have : k = 0 := by omega
               subst this; exact Nat.zero_le _
  | m + 1, h => by
    unfold lcTo
    split
    · rename_i h0
      have hne : k ≠ m + 1 := fun e => hk (e ▸ h0)
      exact lcTo_ge hk m (by omega)
    · exact h
section
variable {n : Nat} {s : List UInt8}
theorem cvN_pos {F : Int → Int → Int → Int} {S : Nat} (hS : S < 2 ^ n) (h : cvS F n S = true) : cvN F n (pcS S) ≠ 0 := by
  unfold cvN
  intro e
  rw [List.countP_eq_zero] at e
  exact e S (List.mem_range.2 hS) (by rw [h]; simp)
/-- What LargestConvex must be at least. -/
theorem lc_facts (h : aciB n s = true) : hszZ n s ≤ (lcTo (cvN (sgnF (lookS n s)) n) n : Nat) ∧ (5 ≤ n → 4 ≤ lcTo (cvN (sgnF (lookS n s)) n) n) ∧ 3 ≤ lcTo (cvN (sgnF (lookS n s)) n) n := by
  obtain ⟨h1, h2⟩ := cv_hull h
  have hle : pcS (extS (sgnF (lookS n s)) n (2 ^ n - 1)) ≤ n := by
    rw [pcS_eq, List.countP_eq_length_filter]
    refine Nat.le_trans (nodup_sub _ (List.range n) (List.nodup_range.filter _) fun x hx => ?_) (by simp)
    exact List.mem_range.2 (bit_low (exS_lt _) (List.mem_filter.1 hx).2)
  have hge := lcTo_ge (cvN_pos (exS_lt _) h1) n hle
  have h3 : 3 ≤ pcS (extS (sgnF (lookS n s)) n (2 ^ n - 1)) := by
    unfold cvS at h1
    simp only [Bool.and_eq_true, decide_eq_true_eq] at h1
    exact h1.1
  refine ⟨by omega, fun h5 => ?_, by omega⟩
  refine lcTo_ge (fun e => ?_) n (by omega)
  have hq := cv_quads h
  have hf := quads_five h (by omega)
  unfold quadsN at hq
  rw [if_pos h, e] at hq
  exact hf (List.eq_nil_of_length_eq_zero (by omega))
end
end Go.Proofs.YtflcpgdgoencgaaGreatDoor.Sg
/- Caps and cups, on plain functions: the longest list of ascending elements of which any three have a sign. -/
namespace Go.Proofs.YtflcpgdgoencgaaGreatDoor.Sg
/-- Has each pair of these one sign with x? -/
def okC (F : Int → Int → Int → Int) (sg : Int) (head : List Nat) (x : Nat) : Bool := (List.range head.length).all fun i => (List.range' (i + 1) (head.length - (i + 1))).all fun j => F (head.getD i 0 : Nat) (head.getD j 0 : Nat) x == sg
def fromC (head : List Nat) : Nat := match head.getLast? with | none => 0 | some a => a + 1
/-- The better one of two lists: the longer one, of two as long the first. -/
def betC (a b : List Nat) : List Nat := if a.length < b.length then b else a
def chF (ok : List Nat → Nat → Bool) (n : Nat) : Nat → List Nat → List Nat
  | 0, head => head
  | f + 1, head => (List.range' (fromC head) (n - fromC head)).foldl (fun best x => if ok head x then betC best (chF ok n f (head ++ [x])) else best) head
theorem betC_l (a b : List Nat) : a.length ≤ (betC a b).length := by unfold betC; split <;> omega
theorem betC_r (a b : List Nat) : b.length ≤ (betC a b).length := by unfold betC; split <;> omega
theorem fold_ge (g : Nat → List Nat) (p : Nat → Bool) : ∀ (L : List Nat) (b : List Nat), b.length ≤ (L.foldl (fun best x => if p x then betC best (g x) else best) b).length ∧ ∀ x ∈ L, p x = true → (g x).length ≤ (L.foldl (fun best x => if p x then betC best (g x) else best) b).length
  | [], b => ⟨Nat.le_refl _, fun x hx => by cases hx⟩
  | y :: L, b => by
    obtain ⟨h1, h2⟩ := fold_ge g p L (if p y then betC b (g y) else b)
    rw [List.foldl_cons]
    refine ⟨Nat.le_trans ?_ h1, fun x hx hp => ?_⟩
    · split
      · exact betC_l _ _
      · exact Nat.le_refl _
    · rcases List.mem_cons.1 hx with rfl | hx
      · refine Nat.le_trans ?_ h1
        rw [if_pos hp]
        exact betC_r _ _
      · exact h2 x hx hp
theorem chF_ge (ok : List Nat → Nat → Bool) (n : Nat) : ∀ (f : Nat) (head : List Nat), head.length ≤ (chF ok n f head).length
  | 0, _ => Nat.le_refl _
  | _ + 1, _ => (fold_ge _ _ _ _).1
theorem chF_step (ok : List Nat → Nat → Bool) (n f : Nat) (head : List Nat) {x : Nat} (h1 : fromC head ≤ x) (h2 : x < n) (hp : ok head x = true) : (chF ok n f (head ++ [x])).length ≤ (chF ok n (f + 1) head).length :=
  (fold_ge (fun x => chF ok n f (head ++ [x])) (ok head) _ _).2 x (List.mem_range'_1.2 ⟨h1, by omega⟩) hp
/-- A list of two there always is. -/
theorem chF_two (F : Int → Int → Int → Int) (sg : Int) {n f : Nat} (h2 : 2 ≤ n) (hf : 2 ≤ f) : 2 ≤ (chF (okC F sg) n f []).length := by
  obtain ⟨f, rfl⟩ : ∃ g, f = g + 2 := ⟨f - 2, by omega⟩
  have a := chF_step (okC F sg) n (f + 1) [] (x := 0) (Nat.le_refl _) (by omega) rfl
  have b := chF_step (okC F sg) n f [0] (x := 1) (Nat.le_refl _) (by omega) rfl
  have c := chF_ge (okC F sg) n f ([0] ++ [1])
  have e : ([] ++ [0] : List Nat) = [0] := rfl
  rw [e] at a
  exact Nat.le_trans (Nat.le_refl 2 : 2 ≤ ([0] ++ [1] : List Nat).length) (Nat.le_trans c (Nat.le_trans b a))
/-- Opposite signs: caps become cups. -/
theorem okC_opp {F G : Int → Int → Int → Int} (h : ∀ a b c, G a b c = -(F a b c)) (sg : Int) : okC G (-sg) = okC F sg := by
  funext head x
  unfold okC
  congr 1
  funext i
  congr 1
  funext j
  rw [h, Bool.eq_iff_iff, beq_iff_eq, beq_iff_eq]
  omega
theorem chF_opp {F G : Int → Int → Int → Int} (h : ∀ a b c, G a b c = -(F a b c)) (sg : Int) (n f : Nat) (head : List Nat) : chF (okC G (-sg)) n f head = chF (okC F sg) n f head := by rw [okC_opp h]
end Go.Proofs.YtflcpgdgoencgaaGreatDoor.Sg
/- Convex sets, on plain functions: what the functions of chapter 8 answer, and what FnConvex asks of these answers. -/
namespace Go.Proofs.YtflcpgdgoencgaaGreatDoor.Sg
open Pt
/-- What ConvexSets and EmptySets answer. -/
def cvZ (n : Int) (s : List UInt8) (k : Int) (emp : Bool) : List Int := if aciB n s = true ∧ inB k 3 n = true then setsTo (fun S => (((pcS S : Nat) : Int) == k) && (cvS (sgnF (lookS n s)) n.toNat S && (!emp || emS (sgnF (lookS n s)) n.toNat S))) (2 ^ n.toNat) else []
/-- What IsConvexSet answers. -/
def isCvB (n : Int) (s : List UInt8) (set : Int) : Bool := aciB n s && (inB set 0 ((2 : Int) ^ n.toNat - 1) && cvS (sgnF (lookS n s)) n.toNat set.toNat)
/-- What LargestConvex and EvenSum answer. -/
def lcZ (n : Int) (s : List UInt8) : Int := if aciB n s = true then (lcTo (cvN (sgnF (lookS n s)) n.toNat) n.toNat : Nat) else -1
def evZ (n : Int) (s : List UInt8) : Int := if aciB n s = true then evTo (emN (sgnF (lookS n s)) n.toNat) (n.toNat + 1) else -1
/-- What CapOf and CupOf answer. -/
def capL (n : Int) (s : List UInt8) (sg : Int) : List Nat := if arB n s = true then chF (okC (sgnF (lookS n s)) sg) n.toNat n.toNat [] else []
theorem mem_setsTo {q : Nat → Bool} {M : Nat} {z : Int} : z ∈ setsTo q M ↔ ∃ S : Nat, z = S ∧ S < M ∧ q S = true := by
  unfold setsTo
  rw [List.mem_map]
  constructor
  · rintro ⟨S, h, rfl⟩
    obtain ⟨h1, h2⟩ := List.mem_filter.1 h
    exact ⟨S, rfl, List.mem_range.1 h1, h2⟩
  · rintro ⟨S, rfl, h1, h2⟩
    exact ⟨S, List.mem_filter.2 ⟨List.mem_range.2 h1, h2⟩, rfl⟩
theorem cvZ_mem {n : Int} {s : List UInt8} {k : Int} {emp : Bool} {z : Int} (h : z ∈ cvZ n s k emp) : aciB n s = true ∧ ∃ S : Nat, z = S ∧ S < 2 ^ n.toNat ∧ ((pcS S : Nat) : Int) = k ∧ cvS (sgnF (lookS n s)) n.toNat S = true ∧ (emp = true → emS (sgnF (lookS n s)) n.toNat S = true) := by
  unfold cvZ at h
  split at h
  · rename_i hc
    obtain ⟨S, h1, h2, h3⟩ := mem_setsTo.1 h
    simp only [Bool.and_eq_true, beq_iff_eq, Bool.or_eq_true, Bool.not_eq_true'] at h3
    exact ⟨hc.1, S, h1, h2, h3.1, h3.2.1, fun he => h3.2.2.resolve_left (by rw [he]; decide)⟩
  · cases h
/-- Empty sets are among the convex ones. -/
theorem em_cv {n : Int} {s : List UInt8} {k : Int} {z : Int} (h : z ∈ cvZ n s k true) : z ∈ cvZ n s k false := by
  obtain ⟨h0, S, rfl, h2, h3, h4, -⟩ := cvZ_mem h
  have hin : inB k 3 n = true := by
    unfold cvZ at h
    split at h
    · rename_i hc; exact hc.2
    · cases h
  unfold cvZ
  rw [if_pos ⟨h0, hin⟩]
  exact mem_setsTo.2 ⟨S, rfl, h2, by rw [h3, h4]; simp⟩
theorem sz_pc : ∀ S, S < 128 → sz S = pcS S := by decide +kernel
/-- Each convex set has as many elements as asked, and IsConvexSet says so. -/
theorem cv_is {n : Int} {s : List UInt8} {k : Int} {z : Int} (h : z ∈ cvZ n s k false) : ∃ S : Nat, z = S ∧ S < 128 ∧ ((sz S : Nat) : Int) = k ∧ isCvB n s S = true := by
  obtain ⟨h0, S, rfl, h2, h3, h4, -⟩ := cvZ_mem h
  have h7 := (aciB_n h0).2
  have hp := pow_le7 (p := n.toNat) (by omega)
  refine ⟨S, rfl, by omega, by rw [sz_pc S (by omega)]; exact h3, ?_⟩
  unfold isCvB
  have e : (2 : Int) ^ n.toNat = ((2 ^ n.toNat : Nat) : Int) := by push_cast; rfl
  rw [h0, Int.toNat_natCast, h4, e, inB_yes (by omega) (by omega)]
  rfl
theorem cv_len4 {n : Nat} {s : List UInt8} (h : aciB n s = true) (h4 : 4 ≤ n) : (((cvZ n s 4 false).length : Nat) : Int) = quadsN n s := by
  rw [← cv_quads h]
  have hin : inB 4 3 (n : Int) = true := inB_yes (by omega) (by omega)
  unfold cvZ cvN setsTo
  rw [if_pos ⟨h, hin⟩, List.length_map, ← List.countP_eq_length_filter, Int.toNat_natCast]
  congr 1
  refine List.countP_congr fun S _ => ?_
  simp only [Bool.and_eq_true, beq_iff_eq, Bool.not_false, Bool.true_or, and_true]
  constructor
  · rintro ⟨a, b⟩; exact ⟨by omega, b⟩
  · rintro ⟨a, b⟩; exact ⟨by omega, b⟩
theorem evZ_yes {n : Nat} {s : List UInt8} (h : aciB n s = true) : evZ n s = ((n * (n - 1) / 2 : Nat) : Int) - n + 1 := by
  unfold evZ
  rw [if_pos h, Int.toNat_natCast, ev_all h]
theorem lcZ_facts {n : Nat} {s : List UInt8} (h : aciB n s = true) : hszZ n s ≤ lcZ n s ∧ (5 ≤ n → 4 ≤ lcZ n s) := by
  obtain ⟨h1, h2, -⟩ := lc_facts h
  unfold lcZ
  rw [if_pos h, Int.toNat_natCast]
  exact ⟨h1, fun h5 => by have := h2 h5; omega⟩
theorem sgn_flip : ∀ b : UInt8, b = 43 ∨ b = 45 → sgn1 (flip1 b) = -(sgn1 b) := by
  intro b hb
  rcases hb with rfl | rfl <;> decide
theorem arB_flip {n : Nat} {s : List UInt8} (h : arB n s = true) : arB n (s.map flip1) = true := by
  obtain ⟨h3, h7, hl, hall⟩ := arB_yes h
  unfold arB
  simp only [Bool.and_eq_true, decide_eq_true_eq, List.all_eq_true, Bool.or_eq_true, beq_iff_eq]
  refine ⟨⟨⟨h3, h7⟩, by rw [List.length_map]; exact hl⟩, fun b hb => ?_⟩
  obtain ⟨c, hc, rfl⟩ := List.mem_map.1 hb
  rcases hall c hc with e | e
  · right; rw [e]; decide
  · left; rw [e]; decide
theorem sgnF_flip {n : Nat} {s : List UInt8} (h : arB n s = true) (a b c : Int) : sgnF (lookS n (s.map flip1)) a b c = -(sgnF (lookS n s) a b c) := by
  obtain ⟨h3, h7, hl, hall⟩ := arB_yes h
  have key : ∀ a b c : Int, lookS n (s.map flip1) a b c = -(lookS n s a b c) := fun a b c => by
    rw [lookS_yes h, lookS_yes (arB_flip h), Int.toNat_natCast]
    unfold look
    split
    · rename_i hc
      have hi := idx_lt (n := n) (i := a.toNat) (j := b.toNat) (k := c.toNat) (by omega) (by omega) (by omega) (by omega)
      rw [Int.toNat_natCast] at hl
      rw [List.getD_eq_getElem?_getD, List.getElem?_map, List.getD_eq_getElem?_getD, List.getElem?_eq_getElem (by omega)]
      exact sgn_flip _ (hall _ (List.getElem_mem _))
    · rfl
  unfold sgnF
  rw [key, Int.mul_neg]
/-- The caps of opposite signs are the cups. -/
theorem cap_opp {n : Nat} {s : List UInt8} (h : arB n s = true) : capL n (s.map flip1) (-1) = capL n s 1 := by
  unfold capL
  rw [if_pos h, if_pos (arB_flip h)]
  exact chF_opp (sgnF_flip h) 1 _ _ _
theorem cap_two {n : Int} {s : List UInt8} (h : arB n s = true) (sg : Int) : 2 ≤ (capL n s sg).length := by
  have h3 := (arB_yes h).1
  unfold capL
  rw [if_pos h]
  exact chF_two _ _ (by omega) (by omega)
theorem cap_no {n : Int} {s : List UInt8} (h : arB n s = false) (sg : Int) : capL n s sg = [] := by unfold capL; rw [h]; rfl
end Go.Proofs.YtflcpgdgoencgaaGreatDoor.Sg
/- Caps and cups, on plain functions: spec's recursion, step by step. -/
namespace Go.Proofs.YtflcpgdgoencgaaGreatDoor.Sg
/-- One pair of a list's elements with x. -/
def okP (F : Int → Int → Int → Int) (sg : Int) (head : List Nat) (x i j : Nat) : Bool := F (head.getD i 0 : Nat) (head.getD j 0 : Nat) x == sg
/-- The pairs (i, i + 1) .. (i, j - 1); the pairs of the first i elements with all behind them. -/
def okJ (F : Int → Int → Int → Int) (sg : Int) (head : List Nat) (x i j : Nat) : Bool := (List.range' (i + 1) (j - (i + 1))).all (okP F sg head x i)
def okI (F : Int → Int → Int → Int) (sg : Int) (head : List Nat) (x i : Nat) : Bool := (List.range i).all fun a => okJ F sg head x a head.length
theorem okJ_zero (F : Int → Int → Int → Int) (sg : Int) (head : List Nat) (x i : Nat) : okJ F sg head x i (i + 1) = true := by unfold okJ; simp
theorem okJ_succ (F : Int → Int → Int → Int) (sg : Int) (head : List Nat) {x i j : Nat} (h : i < j) : okJ F sg head x i (j + 1) = (okJ F sg head x i j && okP F sg head x i j) := by
  unfold okJ
  rw [show j + 1 - (i + 1) = (j - (i + 1)) + 1 by omega, List.range'_concat, List.all_append, Nat.one_mul, show i + 1 + (j - (i + 1)) = j by omega]
  simp
theorem okI_zero (F : Int → Int → Int → Int) (sg : Int) (head : List Nat) (x : Nat) : okI F sg head x 0 = true := rfl
theorem okI_succ (F : Int → Int → Int → Int) (sg : Int) (head : List Nat) (x i : Nat) : okI F sg head x (i + 1) = (okI F sg head x i && okJ F sg head x i head.length) := by
  unfold okI
  rw [List.range_succ, List.all_append]
  simp
theorem okI_all (F : Int → Int → Int → Int) (sg : Int) (head : List Nat) (x : Nat) : okI F sg head x head.length = okC F sg head x := rfl
/-- The best list of those tried before x. -/
def chB (ok : List Nat → Nat → Bool) (n f : Nat) (head : List Nat) (x : Nat) : List Nat := (List.range' (fromC head) (x - fromC head)).foldl (fun best x => if ok head x then betC best (chF ok n f (head ++ [x])) else best) head
theorem chB_zero (ok : List Nat → Nat → Bool) (n f : Nat) (head : List Nat) : chB ok n f head (fromC head) = head := by unfold chB; simp
theorem chB_succ (ok : List Nat → Nat → Bool) (n f : Nat) (head : List Nat) {x : Nat} (h : fromC head ≤ x) : chB ok n f head (x + 1) = if ok head x then betC (chB ok n f head x) (chF ok n f (head ++ [x])) else chB ok n f head x := by
  unfold chB
  rw [show x + 1 - fromC head = (x - fromC head) + 1 by omega, List.range'_concat, List.foldl_append, Nat.one_mul, show fromC head + (x - fromC head) = x by omega]
  rfl
theorem chB_end (ok : List Nat → Nat → Bool) (n f : Nat) (head : List Nat) : chB ok n f head n = chF ok n (f + 1) head := rfl
theorem chF_none (ok : List Nat → Nat → Bool) {n : Nat} : ∀ (f : Nat) {head : List Nat}, n ≤ fromC head → chF ok n f head = head
  | 0, _, _ => rfl
  | f + 1, head, h => by
    show (List.range' (fromC head) (n - fromC head)).foldl _ head = head
    rw [show n - fromC head = 0 by omega]; rfl
theorem fromC_snoc (head : List Nat) (x : Nat) : fromC (head ++ [x]) = x + 1 := by unfold fromC; rw [List.getLast?_concat]
theorem fromC_nil : fromC [] = 0 := rfl
theorem fromC_last {head : List Nat} (h : head ≠ []) : fromC head = head.getD (head.length - 1) 0 + 1 := by
  unfold fromC
  rw [List.getLast?_eq_getElem?, List.getD_eq_getElem?_getD]
  have := List.length_pos_iff.2 h
  rw [List.getElem?_eq_getElem (by omega)]
  rfl
/-- A list of ascending elements below n. -/
def Asc (n : Nat) (head : List Nat) : Prop := head.Pairwise (fun a b => a < b) ∧ (∀ a ∈ head, a < fromC head) ∧ fromC head ≤ n
theorem asc_nil (n : Nat) : Asc n [] := ⟨List.Pairwise.nil, fun a h => (by cases h), Nat.zero_le _⟩
theorem asc_snoc {n x : Nat} {head : List Nat} (h : Asc n head) (h1 : fromC head ≤ x) (h2 : x < n) : Asc n (head ++ [x]) := by
  obtain ⟨a, b, c⟩ := h
  refine ⟨List.pairwise_append.2 ⟨a, List.pairwise_singleton _ _, fun y hy z hz => ?_⟩, fun y hy => ?_, by rw [fromC_snoc]; omega⟩
  · have := b y hy
    rw [List.mem_singleton.1 hz]; omega
  · rw [fromC_snoc]
    rcases List.mem_append.1 hy with hy | hy
    · have := b y hy; omega
    · rw [List.mem_singleton.1 hy]; omega
theorem asc_get {n : Nat} {head : List Nat} (h : Asc n head) {i j : Nat} (hij : i < j) (hj : j < head.length) : head.getD i 0 < head.getD j 0 ∧ head.getD j 0 < fromC head := by
  rw [List.getD_eq_getElem?_getD, List.getElem?_eq_getElem (show i < head.length by omega), List.getD_eq_getElem?_getD, List.getElem?_eq_getElem hj]
  exact ⟨List.pairwise_iff_getElem.1 h.1 i j (by omega) hj hij, h.2.1 _ (List.getElem_mem hj)⟩
theorem asc_len {n : Nat} {head : List Nat} (h : Asc n head) : head.length ≤ n := by
  refine nodup_le n head (h.1.imp fun h => by omega) fun x hx => ?_
  have := h.2.1 x hx
  have := h.2.2
  omega
/-- What the recursion hands back is ascending, too. -/
theorem chB_of {ok : List Nat → Nat → Bool} {n f : Nat} (hF : ∀ head, Asc n head → Asc n (chF ok n f head)) {head : List Nat} (h : Asc n head) : ∀ d, fromC head + d ≤ n → Asc n (chB ok n f head (fromC head + d))
  | 0, _ => by rw [Nat.add_zero, chB_zero]; exact h
  | d + 1, h2 => by
    have ih := chB_of hF h d (by omega)
    rw [← Nat.add_assoc, chB_succ _ _ _ _ (by omega)]
    split
    · unfold betC
      split
      · exact hF _ (asc_snoc h (by omega) (by omega))
      · exact ih
    · exact ih
theorem chF_asc {ok : List Nat → Nat → Bool} {n : Nat} : ∀ (f : Nat) (head : List Nat), Asc n head → Asc n (chF ok n f head)
  | 0, _, h => h
  | f + 1, head, h => by
    have hk := chB_of (ok := ok) (chF_asc f) h (n - fromC head) (by have := h.2.2; omega)
    rw [show fromC head + (n - fromC head) = n by have := h.2.2; omega, chB_end] at hk
    exact hk
theorem chB_asc {ok : List Nat → Nat → Bool} {n f x : Nat} {head : List Nat} (h : Asc n head) (h1 : fromC head ≤ x) (h2 : x ≤ n) : Asc n (chB ok n f head x) := by
  have := chB_of (ok := ok) (chF_asc f) h (x - fromC head) (by omega)
  rwa [show fromC head + (x - fromC head) = x by omega] at this
end Go.Proofs.YtflcpgdgoencgaaGreatDoor.Sg
/- Convex sets, on plain functions: what impl's pass over all sets tells. -/
namespace Go.Proofs.YtflcpgdgoencgaaGreatDoor.Sg
open Pt
/-- The set of three elements; the set of those inside their triangle. -/
def crT (t : T3) : Nat := (2 ^ t.1 ||| 2 ^ t.2.1) ||| 2 ^ t.2.2
def inN (F : Int → Int → Int → Int) (t : T3) (p : Nat) : Nat := setN (fun p => isIn (cir F p t.1 t.2.1 t.2.2)) p
def triL (F : Int → Int → Int → Int) (n p : Nat) : List (Nat × Nat) := ((threes n).take p).map fun t => (crT t, inN F t n)
theorem triL_succ {F : Int → Int → Int → Int} {n p : Nat} {t : T3} (h : (threes n)[p]? = some t) : triL F n (p + 1) = triL F n p ++ [(crT t, inN F t n)] := by
  unfold triL
  rw [List.take_add_one, h, List.map_append]; rfl
theorem triL_len (F : Int → Int → Int → Int) (n p : Nat) : (triL F n p).length ≤ p := by unfold triL; rw [List.length_map, List.length_take]; omega
def triA (F : Int → Int → Int → Int) (n : Nat) : List (Nat × Nat) := (threes n).map fun t => (crT t, inN F t n)
theorem triL_all (F : Int → Int → Int → Int) (n : Nat) : triL F n (threes n).length = triA F n := by unfold triL triA; rw [List.take_length]
theorem triA_len (F : Int → Int → Int → Int) (n : Nat) : (triA F n).length = (threes n).length := by unfold triA; rw [List.length_map]
theorem crT_bit (t : T3) (i : Nat) : (crT t).testBit i = (decide (t.1 = i) || decide (t.2.1 = i) || decide (t.2.2 = i)) := by
  unfold crT
  rw [Nat.testBit_or, Nat.testBit_or, Nat.testBit_two_pow, Nat.testBit_two_pow, Nat.testBit_two_pow]
theorem crT_lt {n : Nat} {t : T3} (h7 : n ≤ 7) (ht : t ∈ threes n) : crT t < 128 := by
  obtain ⟨t1, t2, t3⟩ := threes_mem h7 ht
  have p : ∀ x, x < 7 → 2 ^ x < 2 ^ 7 := fun x hx => Nat.pow_lt_pow_right (by omega) hx
  exact Nat.or_lt_two_pow (n := 7) (Nat.or_lt_two_pow (p _ (by omega)) (p _ (by omega))) (p _ (by omega))
theorem inN_lt128 {n : Nat} (F : Int → Int → Int → Int) (t : T3) (h7 : n ≤ 7) : inN F t n < 128 := Nat.lt_of_lt_of_le (setN_lt _ n) (Nat.pow_le_pow_right (by omega) h7 : 2 ^ n ≤ 2 ^ 7)
theorem triA_small {n : Nat} (F : Int → Int → Int → Int) (h7 : n ≤ 7) : ∀ t ∈ triA F n, t.1 < 128 ∧ t.2 < 128 := fun t ht => by
  unfold triA at ht
  obtain ⟨u, hu, rfl⟩ := List.mem_map.1 ht
  exact ⟨crT_lt h7 hu, inN_lt128 F u h7⟩
theorem crT_sub (S : Nat) (t : T3) : (S &&& crT t == crT t) = (S.testBit t.1 && (S.testBit t.2.1 && S.testBit t.2.2)) := by
  rw [Bool.eq_iff_iff, beq_iff_eq, Bool.and_eq_true, Bool.and_eq_true]
  constructor
  · intro h
    have k : ∀ i, (crT t).testBit i = true → S.testBit i = true := fun i hi => by
      have := congrArg (fun x => x.testBit i) h
      simp only [Nat.testBit_and, hi, Bool.and_true] at this
      exact this
    exact ⟨k _ (by rw [crT_bit]; simp), k _ (by rw [crT_bit]; simp), k _ (by rw [crT_bit]; simp)⟩
  · rintro ⟨h1, h2, h3⟩
    refine Nat.eq_of_testBit_eq fun i => ?_
    rw [Nat.testBit_and, crT_bit]
    by_cases e1 : t.1 = i
    · subst e1; rw [h1]; simp
    · by_cases e2 : t.2.1 = i
      · subst e2; rw [h2]; simp
      · by_cases e3 : t.2.2 = i
        · subst e3; rw [h3]; simp
        · simp [e1, e2, e3]
/-- One more element inside a triangle, as impl's loop takes it. -/
theorem inN_hit {F : Int → Int → Int → Int} {t : T3} {p : Nat} (h : isIn (cir F p t.1 t.2.1 t.2.2) = true) : inN F t (p + 1) = inN F t p ||| 2 ^ p := by
  unfold inN
  have e := Nat.two_pow_add_eq_or_of_lt (setN_lt (fun p => isIn (cir F p t.1 t.2.1 t.2.2)) p) 1
  rw [Nat.mul_one] at e
  rw [setN, if_pos h, Nat.add_comm, e, Nat.or_comm]
theorem inN_miss {F : Int → Int → Int → Int} {t : T3} {p : Nat} (h : isIn (cir F p t.1 t.2.1 t.2.2) = false) : inN F t (p + 1) = inN F t p := by
  unfold inN
  rw [setN, if_neg (by rw [h]; simp), Nat.add_zero]
/-- The elements inside a triangle of a set's elements, from the triangles' list. -/
def insO (S : Nat) (L : List (Nat × Nat)) : Nat := L.foldl (fun a t => if (S &&& t.1 == t.1) = true then a ||| t.2 else a) 0
theorem insO_snoc (S : Nat) (L : List (Nat × Nat)) (t : Nat × Nat) : insO S (L ++ [t]) = if (S &&& t.1 == t.1) = true then insO S L ||| t.2 else insO S L := by
  unfold insO
  rw [List.foldl_append]; rfl
theorem insO_acc (S x : Nat) : ∀ (L : List (Nat × Nat)) (a : Nat), (L.foldl (fun a t => if (S &&& t.1 == t.1) = true then a ||| t.2 else a) a).testBit x = (a.testBit x || L.any fun t => (S &&& t.1 == t.1) && t.2.testBit x)
  | [], a => by simp
  | t :: L, a => by
    rw [List.foldl_cons, insO_acc S x L, List.any_cons]
    cases h : (S &&& t.1 == t.1)
    · simp
    · simp [Nat.testBit_or, Bool.or_assoc]
theorem insO_bit (S x : Nat) (L : List (Nat × Nat)) : (insO S L).testBit x = L.any fun t => (S &&& t.1 == t.1) && t.2.testBit x := by
  unfold insO
  rw [insO_acc]; simp
theorem insO_lt {S : Nat} : ∀ {L : List (Nat × Nat)}, (∀ t ∈ L, t.2 < 128) → insO S L < 128 := by
  have key : ∀ (L : List (Nat × Nat)) (a : Nat), a < 128 → (∀ t ∈ L, t.2 < 128) → L.foldl (fun a t => if (S &&& t.1 == t.1) = true then a ||| t.2 else a) a < 128 := by
    intro L
    induction L with
    | nil => intro a ha _; exact ha
    | cons t L ih =>
      intro a ha h
      rw [List.foldl_cons]
      refine ih _ ?_ fun x hx => h x (List.mem_cons_of_mem _ hx)
      split
      · exact Nat.or_lt_two_pow (n := 7) ha (h t List.mem_cons_self)
      · exact ha
  exact fun {L} h => key L 0 (by omega) h
/-- What the pass reckons for a set. -/
def insS (F : Int → Int → Int → Int) (n S : Nat) : Nat := insO S (triA F n)
theorem insS_lt {n : Nat} (F : Int → Int → Int → Int) (S : Nat) (h7 : n ≤ 7) : insS F n S < 128 := insO_lt fun t ht => (triA_small F h7 t ht).2
theorem insS_bit (F : Int → Int → Int → Int) (n S p : Nat) : (insS F n S).testBit p = (decide (p < n) && inT F n S p) := by
  unfold insS triA
  rw [insO_bit, List.any_map]
  by_cases hp : p < n
  · rw [decide_eq_true hp, Bool.true_and]
    unfold inT
    congr 1
    funext t
    show ((S &&& crT t == crT t) && (inN F t n).testBit p) = _
    unfold inN hitT
    rw [crT_sub, setN_bit, decide_eq_true hp]
    simp [Bool.and_assoc]
  · rw [decide_eq_false hp, Bool.false_and, List.any_eq_false]
    intro t _
    show ¬ (((S &&& crT t == crT t) && (inN F t n).testBit p) = true)
    unfold inN
    rw [setN_bit, decide_eq_false hp]
    simp
theorem zero_iff (x : Nat) : x = 0 ↔ ∀ i, x.testBit i = false := ⟨fun h i => by subst h; exact Nat.zero_testBit i, fun h => Nat.eq_of_testBit_eq fun i => by rw [h i, Nat.zero_testBit]⟩
theorem cv_ins (F : Int → Int → Int → Int) {n S : Nat} (hS : S < 2 ^ n) : cvS F n S = (decide (3 ≤ pcS S) && (S &&& insS F n S == 0)) := by
  unfold cvS
  congr 1
  rw [Bool.eq_iff_iff, beq_iff_eq, beq_iff_eq, zero_iff]
  constructor
  · intro h i
    rw [Nat.testBit_and, insS_bit]
    by_cases hi : i < n
    · have e := congrArg (fun x => x.testBit i) h
      simp only [extS, extTo_bit] at e
      cases hb : S.testBit i
      · rfl
      · rw [hb, decide_eq_true hi] at e
        simp at e
        simp [e]
    · simp [hi]
  · intro h
    refine Nat.eq_of_testBit_eq fun i => ?_
    unfold extS
    rw [extTo_bit]
    have hi := h i
    rw [Nat.testBit_and, insS_bit] at hi
    cases hb : S.testBit i
    · simp
    · have hlt := bit_lt hS hb
      rw [hb, decide_eq_true hlt] at hi
      simp at hi
      simp [hi, hlt]
theorem em_ins (F : Int → Int → Int → Int) {n S : Nat} (hS : S < 2 ^ n) (hc : cvS F n S = true) : (insS F n S == 0) = emS F n S := by
  rw [cv_ins F hS] at hc
  have h0 := (zero_iff _).1 (eq_of_beq (Bool.and_eq_true _ _ ▸ hc : _ ∧ _).2)
  rw [Bool.eq_iff_iff, beq_iff_eq, zero_iff]
  unfold emS
  rw [List.all_eq_true]
  constructor
  · intro h p hp
    have e := h p
    rw [insS_bit, decide_eq_true (List.mem_range.1 hp), Bool.true_and] at e
    rw [e]; simp
  · intro h i
    rw [insS_bit]
    by_cases hi : i < n
    · have e := h i (List.mem_range.2 hi)
      have e0 := h0 i
      rw [Nat.testBit_and, insS_bit, decide_eq_true hi] at e0
      rw [decide_eq_true hi, Bool.true_and]
      cases hb : inT F n S i
      · rfl
      · rw [hb] at e e0
        simp at e e0
        rw [e] at e0; cases e0
    · simp [hi]
theorem pcS_lown {n S : Nat} (hS : S < 2 ^ n) : pcS S ≤ n := by
  rw [pcS_eq, List.countP_eq_length_filter]
  refine Nat.le_trans (nodup_sub _ (List.range n) (List.nodup_range.filter _) fun x hx => ?_) (by simp)
  exact List.mem_range.2 (bit_low hS (List.mem_filter.1 hx).2)
/-- ConvexSets and EmptySets, whatever k is. -/
def wanN (F : Int → Int → Int → Int) (n : Nat) (k : Int) (emp : Bool) (S : Nat) : Bool := cvS F n S && ((((pcS S : Nat) : Int) == k) && (!emp || (insS F n S == 0)))
theorem cvZ_all {n : Nat} {s : List UInt8} (h : aciB n s = true) (k : Int) (emp : Bool) : cvZ n s k emp = setsTo (wanN (sgnF (lookS n s)) n k emp) (2 ^ n) := by
  unfold cvZ setsTo
  rw [Int.toNat_natCast]
  have key : ∀ S, S < 2 ^ n → wanN (sgnF (lookS n s)) n k emp S = ((((pcS S : Nat) : Int) == k) && (cvS (sgnF (lookS n s)) n S && (!emp || emS (sgnF (lookS n s)) n S))) := fun S hS => by
    unfold wanN
    cases hc : cvS (sgnF (lookS n s)) n S
    · simp
    · rw [em_ins _ hS hc]; simp
  cases hin : inB k 3 (n : Int)
  · rw [if_neg (by simp)]
    symm
    rw [List.map_eq_nil_iff, List.filter_eq_nil_iff]
    intro S hS
    have hS := List.mem_range.1 hS
    rw [key S hS]
    have h1 := pcS_lown hS
    intro hw
    simp only [Bool.and_eq_true, beq_iff_eq] at hw
    obtain ⟨h2, h3, -⟩ := hw
    unfold cvS at h3
    simp only [Bool.and_eq_true, decide_eq_true_eq] at h3
    rw [inB_yes (by omega) (by omega)] at hin
    cases hin
  · rw [if_pos ⟨h, rfl⟩]
    congr 1
    exact List.filter_congr fun S hS => (key S (List.mem_range.1 hS)).symm
/-- LargestConvex, as impl reckons it. -/
def mxTo (F : Int → Int → Int → Int) (n : Nat) : Nat → Int
  | 0 => -1
  | p + 1 => if cvS F n p = true then (if mxTo F n p < ((pcS p : Nat) : Int) then ((pcS p : Nat) : Int) else mxTo F n p) else mxTo F n p
theorem mxTo_ge (F : Int → Int → Int → Int) (n : Nat) : ∀ p S, S < p → cvS F n S = true → ((pcS S : Nat) : Int) ≤ mxTo F n p
  | 0, S, h, _ => by omega
  | p + 1, S, h, hc => by
    by_cases e : S = p
    · subst e
      unfold mxTo
      rw [if_pos hc]
      split <;> omega
    · have := mxTo_ge F n p S (by omega) hc
      unfold mxTo
      split
      · split <;> omega
      · exact this
theorem mxTo_has (F : Int → Int → Int → Int) (n : Nat) : ∀ p, mxTo F n p = -1 ∨ ∃ S, S < p ∧ cvS F n S = true ∧ ((pcS S : Nat) : Int) = mxTo F n p
  | 0 => .inl rfl
  | p + 1 => by
    have ih := mxTo_has F n p
    have up : (mxTo F n p = -1 ∨ ∃ S, S < p ∧ cvS F n S = true ∧ ((pcS S : Nat) : Int) = mxTo F n p) → (mxTo F n p = -1 ∨ ∃ S, S < p + 1 ∧ cvS F n S = true ∧ ((pcS S : Nat) : Int) = mxTo F n p) := fun h => h.imp_right fun ⟨S, h1, h2⟩ => ⟨S, by omega, h2⟩
    unfold mxTo
    split
    · rename_i hc
      split
      · exact .inr ⟨p, by omega, hc, rfl⟩
      · exact up ih
    · exact up ih
theorem mxTo_ge1 (F : Int → Int → Int → Int) (n p : Nat) : -1 ≤ mxTo F n p := by
  rcases mxTo_has F n p with h | ⟨S, -, -, h⟩ <;> omega
theorem mxTo_le (F : Int → Int → Int → Int) (n p : Nat) : mxTo F n p ≤ 7 := by
  rcases mxTo_has F n p with h | ⟨S, -, -, h⟩
  · omega
  · have := pcS_le S; omega
theorem lcTo_has (c : Nat → Nat) : ∀ m, lcTo c m = 0 ∨ (c (lcTo c m) ≠ 0 ∧ lcTo c m ≤ m)
  | 0 => .inl rfl
  | m + 1 => by
    unfold lcTo
    split
    · rcases lcTo_has c m with h | ⟨h1, h2⟩
      · exact .inl h
      · exact .inr ⟨h1, by omega⟩
    · rename_i h
      exact .inr ⟨h, Nat.le_refl _⟩
theorem mxTo_all {n : Nat} {s : List UInt8} (h : aciB n s = true) : mxTo (sgnF (lookS n s)) n (2 ^ n) = lcZ n s := by
  have h3 := (lc_facts h).2.2
  unfold lcZ
  rw [if_pos h, Int.toNat_natCast]
  generalize sgnF (lookS n s) = F at h3 ⊢
  have hge := mxTo_ge F n (2 ^ n)
  have hhas := mxTo_has F n (2 ^ n)
  generalize mxTo F n (2 ^ n) = M at hge hhas ⊢
  rcases lcTo_has (cvN F n) n with h0 | ⟨h1, h2⟩
  · omega
  · have hle : ((lcTo (cvN F n) n : Nat) : Int) ≤ M := by
      unfold cvN at h1
      rw [Ne, List.countP_eq_zero] at h1
      obtain ⟨S, hS⟩ := Classical.not_forall.1 h1
      rw [Classical.not_imp] at hS
      obtain ⟨hr, hS⟩ := hS
      have hS : _ = true := Classical.not_not.1 hS
      rw [Bool.and_eq_true, beq_iff_eq] at hS
      have := hge S (List.mem_range.1 hr) hS.2
      rw [hS.1] at this
      exact this
    rcases hhas with e | ⟨S, k1, k2, k3⟩
    · omega
    · have := lcTo_ge (cvN_pos k1 k2) n (pcS_lown k1)
      omega
/-- EvenSum, as impl reckons it. -/
def evA (F : Int → Int → Int → Int) (n : Nat) : Nat → Int
  | 0 => 0
  | p + 1 => if (cvS F n p && (insS F n p == 0)) = true then (if pcS p % 2 = 0 then evA F n p - 1 else evA F n p + 1) else evA F n p
theorem evA_par (F : Int → Int → Int → Int) (n : Nat) : ∀ p, evA F n p = -(((List.range p).filter fun S => cvS F n S && (insS F n S == 0)).map parS).sum
  | 0 => rfl
  | p + 1 => by
    rw [List.range_succ, List.filter_append, List.map_append, List.sum_append]
    unfold evA
    rw [evA_par F n p]
    cases hc : (cvS F n p && (insS F n p == 0))
    · rw [if_neg (by simp), List.filter_cons_of_neg (by rw [hc]; simp)]
      simp
    · rw [if_pos rfl, List.filter_cons_of_pos (by rw [hc])]
      simp only [List.filter_nil, List.map_cons, List.map_nil, List.sum_cons, List.sum_nil, parS]
      split <;> omega
theorem evA_le (F : Int → Int → Int → Int) (n : Nat) : ∀ p : Nat, -(p : Int) ≤ evA F n p ∧ evA F n p ≤ p
  | 0 => by unfold evA; omega
  | p + 1 => by
    have := evA_le F n p
    unfold evA
    split
    · split <;> omega
    · omega
theorem evA_all {n : Nat} {s : List UInt8} (h : aciB n s = true) : evA (sgnF (lookS n s)) n (2 ^ n) = evZ n s := by
  rw [evZ_yes h, ← em_alt h, evA_par]
  rw [alt_cnt _ _ fun S _ => pcS_le S]
  have low : ∀ k, k ≤ 2 → (List.range (2 ^ n)).countP (fun S => pcS S == k && (cvS (sgnF (lookS n s)) n S && (insS (sgnF (lookS n s)) n S == 0))) = 0 := fun k hk => by
    rw [List.countP_eq_zero]
    intro S _ hw
    simp only [Bool.and_eq_true, beq_iff_eq] at hw
    obtain ⟨h1, h2, -⟩ := hw
    unfold cvS at h2
    simp only [Bool.and_eq_true, decide_eq_true_eq] at h2
    omega
  have same : ∀ k, (List.range (2 ^ n)).countP (fun S => pcS S == k && (cvS (sgnF (lookS n s)) n S && (insS (sgnF (lookS n s)) n S == 0))) = emN (sgnF (lookS n s)) n k := fun k => by
    unfold emN
    refine List.countP_congr fun S hS => ?_
    cases hc : cvS (sgnF (lookS n s)) n S
    · simp
    · rw [em_ins _ (List.mem_range.1 hS) hc]
  rw [low 0 (by omega), low 1 (by omega), low 2 (by omega), same, same, same, same, same]
  omega
/-- IsConvexSet, as impl finds it. -/
theorem isCv_yes {n : Nat} {s : List UInt8} (h : aciB n s = true) {set : Int} {S : Nat} (hS : S < 2 ^ n) (hc : cvS (sgnF (lookS n s)) n S = true) (e : ((S : Int) == set) = true) : isCvB n s set = true := by
  have e := eq_of_beq e
  subst e
  unfold isCvB
  have e2 : (2 : Int) ^ n = ((2 ^ n : Nat) : Int) := by push_cast; rfl
  rw [h, Int.toNat_natCast, Int.toNat_natCast, hc, e2, inB_yes (by omega) (by omega)]
  rfl
theorem isCv_no {n : Nat} {s : List UInt8} {set : Int} (hn : ∀ S : Nat, S < 2 ^ n → cvS (sgnF (lookS n s)) n S = true → ((S : Int) == set) = false) : isCvB n s set = false := by
  cases hc : isCvB n s set
  · rfl
  · unfold isCvB at hc
    simp only [Bool.and_eq_true, Int.toNat_natCast] at hc
    obtain ⟨-, h2, h3⟩ := hc
    have k := inB_mem h2
    have e2 : (2 : Int) ^ n = ((2 ^ n : Nat) : Int) := by push_cast; rfl
    rw [e2] at k
    have := hn set.toNat (by omega) h3
    rw [beq_eq_false_iff_ne] at this
    omega
end Go.Proofs.YtflcpgdgoencgaaGreatDoor.Sg
/- Caps and cups, on plain functions: the list that is first under impl's key is the one that spec's recursion finds. -/
namespace Go.Proofs.YtflcpgdgoencgaaGreatDoor.Sg
open Pt
/-- How slices.Compare tells two lists. -/
def cmpL : List Nat → List Nat → Int
  | [], [] => 0
  | [], _ :: _ => -1
  | _ :: _, [] => 1
  | a :: A, b :: B => if (cmpI (a : Int) (b : Int) != 0) = true then cmpI (a : Int) (b : Int) else cmpL A B
/-- A list as a number to the base 8. -/
def b8 (p : Nat) (L : List Nat) : Nat := L.foldl (fun p x => p * 8 + x) p
theorem b8_lt : ∀ (L : List Nat) (p : Nat), (∀ x ∈ L, x < 8) → b8 p L < (p + 1) * 8 ^ L.length
  | [], p, _ => by simp [b8]
  | a :: L, p, h => by
    have ih := b8_lt L (p * 8 + a) fun x hx => h x (List.mem_cons_of_mem _ hx)
    have ha := h a List.mem_cons_self
    show b8 (p * 8 + a) L < _
    rw [List.length_cons, Nat.pow_succ]
    have hm : (p * 8 + a + 1) * 8 ^ L.length ≤ ((p + 1) * 8) * 8 ^ L.length := Nat.mul_le_mul_right _ (by omega)
    have e : (p + 1) * (8 ^ L.length * 8) = ((p + 1) * 8) * 8 ^ L.length := by rw [Nat.mul_assoc, Nat.mul_comm 8]
    omega
theorem b8_small {L : List Nat} (h7 : L.length ≤ 7) (h : ∀ x ∈ L, x < 8) : b8 0 L < 2097152 := by
  have := b8_lt L 0 h
  have : 8 ^ L.length ≤ 8 ^ 7 := Nat.pow_le_pow_right (by omega) h7
  omega
theorem b8_mono : ∀ (A B : List Nat) (p q : Nat), A.length = B.length → (∀ x ∈ A, x < 8) → (∀ x ∈ B, x < 8) → p < q → b8 p A < b8 q B
  | [], [], p, q, _, _, _, h => h
  | [], _ :: _, _, _, h, _, _, _ => by cases h
  | _ :: _, [], _, _, h, _, _, _ => by cases h
  | a :: A, b :: B, p, q, h, hA, hB, hpq => by
    have h1 := hA a List.mem_cons_self
    exact b8_mono A B (p * 8 + a) (q * 8 + b) (by simpa using h) (fun x hx => hA x (List.mem_cons_of_mem _ hx)) (fun x hx => hB x (List.mem_cons_of_mem _ hx)) (by omega)
theorem cmpL_b8 : ∀ (A B : List Nat) (p : Nat), A.length = B.length → (∀ x ∈ A, x < 8) → (∀ x ∈ B, x < 8) → (cmpL A B < 0 ↔ b8 p A < b8 p B) ∧ (b8 p A = b8 p B → A = B)
  | [], [], p, _, _, _ => by simp [cmpL]
  | [], _ :: _, _, h, _, _ => by cases h
  | _ :: _, [], _, h, _, _ => by cases h
  | a :: A, b :: B, p, h, hA, hB => by
    have hA' : ∀ x ∈ A, x < 8 := fun x hx => hA x (List.mem_cons_of_mem _ hx)
    have hB' : ∀ x ∈ B, x < 8 := fun x hx => hB x (List.mem_cons_of_mem _ hx)
    have hl : A.length = B.length := by simpa using h
    show (cmpL (a :: A) (b :: B) < 0 ↔ b8 (p * 8 + a) A < b8 (p * 8 + b) B) ∧ (b8 (p * 8 + a) A = b8 (p * 8 + b) B → a :: A = b :: B)
    unfold cmpL
    rcases Nat.lt_trichotomy a b with e | e | e
    · have hm := b8_mono A B (p * 8 + a) (p * 8 + b) hl hA' hB' (by omega)
      rw [cmpI_lt (by omega : (a : Int) < (b : Int))]
      rw [if_pos (by decide)]
      exact ⟨⟨fun _ => hm, fun _ => by decide⟩, fun e => by omega⟩
    · subst e
      rw [cmpI_eq rfl, if_neg (by decide)]
      obtain ⟨h1, h2⟩ := cmpL_b8 A B (p * 8 + a) hl hA' hB'
      exact ⟨h1, fun e => by rw [h2 e]⟩
    · have hm := b8_mono B A (p * 8 + b) (p * 8 + a) hl.symm hB' hA' (by omega)
      rw [cmpI_gt (by omega : (b : Int) < (a : Int))]
      rw [if_pos (by decide)]
      exact ⟨⟨fun h => absurd h (by decide), fun h => by omega⟩, fun e => by omega⟩
/-- Lists of at most seven elements below 8; the longer one first, of two as long the lesser one. -/
def Sm (L : List Nat) : Prop := L.length ≤ 7 ∧ ∀ x ∈ L, x < 8
def key (L : List Nat) : Nat := (7 - L.length) * 2097152 + b8 0 L
def cmpD (A B : List Nat) : Int := if (((B.length : Int) - (A.length : Int)) != 0) = true then (B.length : Int) - (A.length : Int) else cmpL A B
theorem cmpD_key {A B : List Nat} (hA : Sm A) (hB : Sm B) : decide (cmpD A B < 0) = decide (key A < key B) := by
  have a := b8_small hA.1 hA.2
  have b := b8_small hB.1 hB.2
  have hA1 := hA.1
  have hB1 := hB.1
  rw [Bool.eq_iff_iff, decide_eq_true_eq, decide_eq_true_eq]
  unfold cmpD key
  by_cases e : A.length = B.length
  · have := (cmpL_b8 A B 0 e hA.2 hB.2).1
    rw [if_neg (by simp; omega), this, e]
    omega
  · rw [if_pos (by simp; omega)]
    omega
theorem key_inj {A B : List Nat} (hA : Sm A) (hB : Sm B) (h : key A = key B) : A = B := by
  have a := b8_small hA.1 hA.2
  have b := b8_small hB.1 hB.2
  have hA1 := hA.1
  have hB1 := hB.1
  unfold key at h
  have e : A.length = B.length := by omega
  exact (cmpL_b8 A B 0 e hA.2 hB.2).2 (by rw [e] at h; omega)
theorem key_longer {A B : List Nat} (hA : Sm A) (hB : Sm B) (h : B.length < A.length) : key A < key B := by
  have a := b8_small hA.1 hA.2
  have b := b8_small hB.1 hB.2
  have hA1 := hA.1
  have hB1 := hB.1
  unfold key
  omega
theorem key_len {A B : List Nat} (hA : Sm A) (hB : Sm B) (h : key A ≤ key B) : B.length ≤ A.length := by
  rcases Nat.lt_or_ge A.length B.length with e | e
  · have := key_longer hB hA e; omega
  · exact e
/-- The list of the least key, as impl's loop finds it. -/
def minK (m : List Nat) (xs : List (List Nat)) : List Nat := xs.foldl (fun m x => if key x < key m then x else m) m
theorem minK_snoc (m : List Nat) (xs : List (List Nat)) (x : List Nat) : minK m (xs ++ [x]) = if key x < key (minK m xs) then x else minK m xs := by
  unfold minK
  rw [List.foldl_append, List.foldl_cons, List.foldl_nil]
theorem minK_fact : ∀ (xs : List (List Nat)) (m : List Nat), (minK m xs = m ∨ minK m xs ∈ xs) ∧ key (minK m xs) ≤ key m ∧ ∀ x ∈ xs, key (minK m xs) ≤ key x
  | [], m => ⟨.inl rfl, Nat.le_refl _, fun x hx => by cases hx⟩
  | y :: xs, m => by
    obtain ⟨h1, h2, h3⟩ := minK_fact xs (if key y < key m then y else m)
    have e : minK m (y :: xs) = minK (if key y < key m then y else m) xs := by unfold minK; rw [List.foldl_cons]
    rw [e]
    refine ⟨?_, ?_, fun x hx => ?_⟩
    · rcases h1 with h1 | h1
      · rw [h1]
        split
        · exact .inr List.mem_cons_self
        · exact .inl rfl
      · exact .inr (List.mem_cons_of_mem _ h1)
    · refine Nat.le_trans h2 ?_
      split <;> omega
    · rcases List.mem_cons.1 hx with rfl | hx
      · refine Nat.le_trans h2 ?_
        split <;> omega
      · exact h3 x hx
/-- Any three of a list's elements have one sign. -/
def TriS (F : Int → Int → Int → Int) (sg : Int) (L : List Nat) : Prop := ∀ i j k : Nat, i < j → j < k → k < L.length → F (L.getD i 0 : Nat) (L.getD j 0 : Nat) (L.getD k 0 : Nat) = sg
theorem okC_iff {F : Int → Int → Int → Int} {sg : Int} {head : List Nat} {x : Nat} : okC F sg head x = true ↔ ∀ i j : Nat, i < j → j < head.length → F (head.getD i 0 : Nat) (head.getD j 0 : Nat) x = sg := by
  unfold okC
  rw [List.all_eq_true]
  constructor
  · intro h i j hij hj
    have h1 := List.all_eq_true.1 (h i (List.mem_range.2 (by omega))) j (List.mem_range'_1.2 ⟨by omega, by omega⟩)
    exact eq_of_beq h1
  · intro h i hi
    have hi := List.mem_range.1 hi
    rw [List.all_eq_true]
    intro j hj
    obtain ⟨h1, h2⟩ := List.mem_range'_1.1 hj
    exact beq_iff_eq.2 (h i j (by omega) (by omega))
theorem getD_app {L : List Nat} {i : Nat} (x : Nat) (h : i < L.length) : (L ++ [x]).getD i 0 = L.getD i 0 := by
  rw [List.getD_eq_getElem?_getD, List.getElem?_append_left h, ← List.getD_eq_getElem?_getD]
theorem getD_last (L : List Nat) (x : Nat) : (L ++ [x]).getD L.length 0 = x := by
  rw [List.getD_eq_getElem?_getD, List.getElem?_append_right (Nat.le_refl _), Nat.sub_self]; rfl
theorem triS_snoc {F : Int → Int → Int → Int} {sg : Int} {head : List Nat} {x : Nat} : TriS F sg (head ++ [x]) ↔ TriS F sg head ∧ okC F sg head x = true := by
  rw [okC_iff]
  have hl : (head ++ [x]).length = head.length + 1 := by simp
  constructor
  · intro h
    refine ⟨fun i j k h1 h2 h3 => ?_, fun i j h1 h2 => ?_⟩
    · have := h i j k h1 h2 (by omega)
      rw [getD_app x (by omega), getD_app x (by omega), getD_app x h3] at this
      exact this
    · have := h i j head.length h1 h2 (by omega)
      rw [getD_app x (by omega), getD_app x h2, getD_last] at this
      exact this
  · rintro ⟨h1, h2⟩ i j k k1 k2 k3
    by_cases e : k = head.length
    · subst e
      rw [getD_app x (by omega), getD_app x k2, getD_last]
      exact h2 i j k1 k2
    · rw [getD_app x (by omega), getD_app x (by omega), getD_app x (by omega)]
      exact h1 i j k k1 k2 (by omega)
theorem triS_left {F : Int → Int → Int → Int} {sg : Int} {A B : List Nat} (h : TriS F sg (A ++ B)) : TriS F sg A := fun i j k h1 h2 h3 => by
  have g : ∀ q, q < A.length → (A ++ B).getD q 0 = A.getD q 0 := fun q hq => by rw [List.getD_eq_getElem?_getD, List.getElem?_append_left hq, ← List.getD_eq_getElem?_getD]
  have := h i j k h1 h2 (by rw [List.length_append]; omega)
  rw [g i (by omega), g j (by omega), g k h3] at this
  exact this
theorem triS_nil (F : Int → Int → Int → Int) (sg : Int) : TriS F sg [] := fun i j k _ _ h => by simp at h
section
variable {F : Int → Int → Int → Int} {sg : Int} {n : Nat}
/-- What the recursion hands back extends the head, and any three of it have the sign. -/
theorem chB_ext {f : Nat} (hF : ∀ head, TriS F sg head → TriS F sg (chF (okC F sg) n f head) ∧ ∃ t, chF (okC F sg) n f head = head ++ t) {head : List Nat} (h : TriS F sg head) : ∀ d, TriS F sg (chB (okC F sg) n f head (fromC head + d)) ∧ ∃ t, chB (okC F sg) n f head (fromC head + d) = head ++ t
  | 0 => by rw [Nat.add_zero, chB_zero]; exact ⟨h, [], by simp⟩
  | d + 1 => by
    have ih := chB_ext hF h d
    rw [← Nat.add_assoc, chB_succ _ _ _ _ (by omega)]
    split
    · rename_i hok
      unfold betC
      split
      · obtain ⟨h1, t, h2⟩ := hF (head ++ [fromC head + d]) (triS_snoc.2 ⟨h, hok⟩)
        exact ⟨h1, (fromC head + d) :: t, by rw [h2]; simp⟩
      · exact ih
    · exact ih
theorem chF_ext : ∀ (f : Nat) (head : List Nat), TriS F sg head → TriS F sg (chF (okC F sg) n f head) ∧ ∃ t, chF (okC F sg) n f head = head ++ t
  | 0, head, h => ⟨h, [], by simp [chF]⟩
  | f + 1, head, h => by
    rw [← chB_end]
    by_cases hn : fromC head ≤ n
    · have := chB_ext (chF_ext f) h (n - fromC head)
      rwa [show fromC head + (n - fromC head) = n by omega] at this
    · rw [chB_end, chF_none _ (f + 1) (by omega)]
      exact ⟨h, [], by simp⟩
theorem asc_sm {L : List Nat} (h7 : n ≤ 7) (h : Asc n L) : Sm L := ⟨Nat.le_trans (asc_len h) h7, fun x hx => by have := h.2.1 x hx; have := h.2.2; omega⟩
theorem asc_left {A B : List Nat} (h : Asc n (A ++ B)) : Asc n A := by
  obtain ⟨h1, h2, h3⟩ := h
  rw [List.pairwise_append] at h1
  by_cases hA : A = []
  · subst hA; exact asc_nil n
  · have hm : A.getD (A.length - 1) 0 ∈ A ++ B := by
      have := List.length_pos_iff.2 hA
      rw [List.getD_eq_getElem?_getD, List.getElem?_eq_getElem (by omega)]
      exact List.mem_append_left _ (List.getElem_mem _)
    have := h2 _ hm
    refine ⟨h1.1, fun a ha => ?_, by rw [fromC_last hA]; omega⟩
    rw [fromC_last hA]
    obtain ⟨i, hi, rfl⟩ := List.getElem_of_mem ha
    rw [List.getD_eq_getElem?_getD, List.getElem?_eq_getElem (by omega)]
    show A[i] < A[A.length - 1] + 1
    by_cases e : i = A.length - 1
    · subst e; omega
    · have := List.pairwise_iff_getElem.1 h1.1 i (A.length - 1) hi (by omega) (by omega)
      omega
/-- Behind one head, the lesser next element makes the lesser key. -/
theorem b8_app (A B : List Nat) (p : Nat) : b8 p (A ++ B) = b8 (b8 p A) B := by unfold b8; rw [List.foldl_append]
theorem key_next {head A B : List Nat} {x y : Nat} (hxy : x < y) (hA : Sm (head ++ [x] ++ A)) (hB : Sm (head ++ [y] ++ B)) (hl : (head ++ [x] ++ A).length = (head ++ [y] ++ B).length) : key (head ++ [x] ++ A) < key (head ++ [y] ++ B) := by
  unfold key
  rw [hl, b8_app, b8_app, b8_app, b8_app]
  have : b8 (b8 (b8 0 head) [x]) A < b8 (b8 (b8 0 head) [y]) B := b8_mono A B _ _ (by simp at hl; omega) (fun z hz => hA.2 z (List.mem_append_right _ hz)) (fun z hz => hB.2 z (List.mem_append_right _ hz)) (by simp [b8]; omega)
  omega
/-- The best list of those tried before x: the head itself, or one through some y; and none through another is better. -/
theorem chB_best (h7 : n ≤ 7) {f : Nat} {head : List Nat} (ha : Asc n head) (ht : TriS F sg head) : ∀ d, fromC head + d ≤ n →
    (chB (okC F sg) n f head (fromC head + d) = head ∨ ∃ y, fromC head ≤ y ∧ y < fromC head + d ∧ okC F sg head y = true ∧ chB (okC F sg) n f head (fromC head + d) = chF (okC F sg) n f (head ++ [y])) ∧
    (∀ y, fromC head ≤ y → y < fromC head + d → okC F sg head y = true → key (chB (okC F sg) n f head (fromC head + d)) ≤ key (chF (okC F sg) n f (head ++ [y])))
  | 0, _ => by rw [Nat.add_zero, chB_zero]; exact ⟨.inl rfl, fun y h1 h2 => by omega⟩
  | d + 1, h2 => by
    obtain ⟨h1, h3⟩ := chB_best h7 (f := f) ha ht d (by omega)
    rw [← Nat.add_assoc, chB_succ _ _ _ _ (by omega)]
    cases hok : okC F sg head (fromC head + d)
    · rw [if_neg (by simp)]
      refine ⟨h1.imp_right fun ⟨y, k1, k2, k3⟩ => ⟨y, k1, by omega, k3⟩, fun y k1 k2 k3 => ?_⟩
      by_cases e : y = fromC head + d
      · subst e; rw [hok] at k3; cases k3
      · exact h3 y k1 (by omega) k3
    · rw [if_pos rfl]
      have hng := asc_snoc ha (by omega : fromC head ≤ fromC head + d) (by omega)
      have hgs := asc_sm h7 (chF_asc (ok := okC F sg) f _ hng)
      have hgl := chF_ge (okC F sg) n f (head ++ [fromC head + d])
      obtain ⟨-, t, htt⟩ := chF_ext (F := F) (sg := sg) (n := n) f (head ++ [fromC head + d]) (triS_snoc.2 ⟨ht, hok⟩)
      have hcs := asc_sm h7 (chB_asc (ok := okC F sg) (f := f) ha (by omega : fromC head ≤ fromC head + d) (by omega))
      unfold betC
      split
      · rename_i hlt
        have hk := key_longer hgs hcs hlt
        refine ⟨.inr ⟨_, by omega, by omega, hok, rfl⟩, fun y k1 k2 k3 => ?_⟩
        by_cases e : y = fromC head + d
        · subst e; exact Nat.le_refl _
        · have := h3 y k1 (by omega) k3; omega
      · rename_i hlt
        refine ⟨h1.imp_right fun ⟨y, k1, k2, k3⟩ => ⟨y, k1, by omega, k3⟩, fun y k1 k2 k3 => ?_⟩
        by_cases e : y = fromC head + d
        · subst e
          rcases Nat.lt_or_ge (chF (okC F sg) n f (head ++ [fromC head + d])).length (chB (okC F sg) n f head (fromC head + d)).length with hl | hl
          · exact Nat.le_of_lt (key_longer hcs hgs hl)
          · rcases h1 with h1 | ⟨y, q1, q2, q3, q4⟩
            · rw [h1] at hlt
              simp at hgl
              omega
            · obtain ⟨-, u, huu⟩ := chF_ext (F := F) (sg := sg) (n := n) f (head ++ [y]) (triS_snoc.2 ⟨ht, q3⟩)
              rw [q4, huu] at hlt hl hcs ⊢
              rw [htt] at hlt hl hgs ⊢
              exact Nat.le_of_lt (key_next q2 hcs hgs (by omega))
        · exact h3 y k1 (by omega) k3
/-- No list that extends the head is better than the one that the recursion finds. -/
theorem chF_best (h7 : n ≤ 7) : ∀ (f : Nat) (head : List Nat), Asc n head → TriS F sg head → n ≤ fromC head + f → ∀ t, Asc n (head ++ t) → TriS F sg (head ++ t) → key (chF (okC F sg) n f head) ≤ key (head ++ t)
  | 0, head, ha, ht, hf, t, h1, h2 => by
    cases t with
    | nil => simp [chF]
    | cons x t =>
      have hx := (asc_left (A := head ++ [x]) (B := t) (by simpa using h1)).2.2
      have := h1.1
      rw [List.pairwise_append] at this
      rw [fromC_snoc] at hx
      have hfx : fromC head ≤ x := by
        by_cases e : head = []
        · subst e; exact Nat.zero_le _
        · rw [fromC_last e]
          have hp := List.length_pos_iff.2 e
          have := this.2.2 (head.getD (head.length - 1) 0) (by rw [List.getD_eq_getElem?_getD, List.getElem?_eq_getElem (by omega)]; exact List.getElem_mem _) x List.mem_cons_self
          omega
      omega
  | f + 1, head, ha, ht, hf, t, h1, h2 => by
    have hcs := asc_sm h7 (chF_asc (ok := okC F sg) (f + 1) head ha)
    cases t with
    | nil =>
      rw [List.append_nil]
      have hfr := ha.2.2
      obtain ⟨hb, -⟩ := chB_best h7 (F := F) (sg := sg) (f := f) ha ht (n - fromC head) (by omega)
      rw [show fromC head + (n - fromC head) = n by omega, chB_end] at hb
      rcases hb with hb | ⟨y, k1, k2, k3, k4⟩
      · rw [hb]; exact Nat.le_refl _
      · have hgl := chF_ge (okC F sg) n f (head ++ [y])
        rw [← k4] at hgl
        simp at hgl
        exact Nat.le_of_lt (key_longer hcs (asc_sm h7 ha) (by omega))
    | cons x t =>
      have h1' : Asc n (head ++ [x] ++ t) := by simpa using h1
      have h2' : TriS F sg (head ++ [x] ++ t) := by simpa using h2
      have hax := asc_left h1'
      have htx := triS_left h2'
      have hx := hax.2.2
      rw [fromC_snoc] at hx
      have hp := hax.1
      rw [List.pairwise_append] at hp
      have hfx : fromC head ≤ x := by
        by_cases e : head = []
        · subst e; exact Nat.zero_le _
        · rw [fromC_last e]
          have hp0 := List.length_pos_iff.2 e
          have := hp.2.2 (head.getD (head.length - 1) 0) (by rw [List.getD_eq_getElem?_getD, List.getElem?_eq_getElem (by omega)]; exact List.getElem_mem _) x (List.mem_singleton.2 rfl)
          omega
      have hok := (triS_snoc.1 htx).2
      have ih := chF_best h7 f (head ++ [x]) hax htx (by rw [fromC_snoc]; omega) t h1' h2'
      obtain ⟨-, hb⟩ := chB_best h7 (F := F) (sg := sg) (f := f) ha ht (n - fromC head) (by omega)
      rw [show fromC head + (n - fromC head) = n by omega, chB_end] at hb
      have := hb x hfx (by omega) hok
      have e : head ++ [x] ++ t = head ++ x :: t := by simp
      rw [e] at ih
      omega
end
/-- All three of a list's elements, as impl looks at them. -/
def allS' (F : Int → Int → Int → Int) (sg : Int) (L : List Nat) : Bool := !((threes L.length).any fun t => !(F (L.getD t.1 0 : Nat) (L.getD t.2.1 0 : Nat) (L.getD t.2.2 0 : Nat) == sg))
theorem allS'_iff {F : Int → Int → Int → Int} {sg : Int} {L : List Nat} (h7 : L.length ≤ 7) : allS' F sg L = true ↔ TriS F sg L := by
  unfold allS' TriS
  rw [Bool.not_eq_true', List.any_eq_false]
  constructor
  · intro h i j k h1 h2 h3
    have := h (i, j, k) (threes_in h7 h1 h2 h3)
    simpa using this
  · intro h t ht
    obtain ⟨t1, t2, t3⟩ := threes_mem h7 ht
    have := h t.1 t.2.1 t.2.2 t1 t2 t3
    simpa using this
/-- The lists that impl gathers from the first p sets. -/
def capsTo (F : Int → Int → Int → Int) (sg : Int) (p : Nat) : List (List Nat) := ((List.range p).map eltN).filter (allS' F sg)
theorem capsTo_hit {F : Int → Int → Int → Int} {sg : Int} {p : Nat} (h : allS' F sg (eltN p) = true) : capsTo F sg (p + 1) = capsTo F sg p ++ [eltN p] := by
  unfold capsTo
  rw [List.range_succ, List.map_append, List.filter_append]
  simp [h]
theorem capsTo_miss {F : Int → Int → Int → Int} {sg : Int} {p : Nat} (h : allS' F sg (eltN p) = false) : capsTo F sg (p + 1) = capsTo F sg p := by
  unfold capsTo
  rw [List.range_succ, List.map_append, List.filter_append]
  simp [h]
theorem capsTo_len (F : Int → Int → Int → Int) (sg : Int) (p : Nat) : (capsTo F sg p).length ≤ p := by
  unfold capsTo
  refine Nat.le_trans (List.length_filter_le _ _) ?_
  simp
theorem capsTo_mem {F : Int → Int → Int → Int} {sg : Int} {p : Nat} {L : List Nat} : L ∈ capsTo F sg p ↔ (∃ S, S < p ∧ eltN S = L) ∧ TriS F sg L := by
  unfold capsTo
  rw [List.mem_filter, List.mem_map]
  constructor
  · rintro ⟨⟨S, h1, rfl⟩, h2⟩
    exact ⟨⟨S, List.mem_range.1 h1, rfl⟩, (allS'_iff (elt_len S)).1 h2⟩
  · rintro ⟨⟨S, h1, rfl⟩, h2⟩
    exact ⟨⟨S, List.mem_range.2 h1, rfl⟩, (allS'_iff (elt_len S)).2 h2⟩
theorem elt_asc {n S : Nat} (hS : S < 2 ^ n) : Asc n (eltN S) := by
  by_cases e : eltN S = []
  · rw [e]; exact asc_nil n
  · have hp := List.length_pos_iff.2 e
    have hs := elt_sorted S
    have hg : (eltN S).getD ((eltN S).length - 1) 0 = (eltN S)[(eltN S).length - 1] := by rw [List.getD_eq_getElem?_getD, List.getElem?_eq_getElem (by omega)]; rfl
    refine ⟨hs, fun a ha => ?_, ?_⟩
    · rw [fromC_last e, hg]
      obtain ⟨i, hi, rfl⟩ := List.getElem_of_mem ha
      by_cases e : i = (eltN S).length - 1
      · subst e; omega
      · have := List.pairwise_iff_getElem.1 hs i ((eltN S).length - 1) hi (by omega) (by omega)
        omega
    · rw [fromC_last e, hg]
      exact elt_lt hS (List.getElem_mem _)
theorem asc_elt {n : Nat} (h7 : n ≤ 7) {L : List Nat} (h : Asc n L) : ∃ S, S < 2 ^ n ∧ eltN S = L := by
  have hlt : ∀ x ∈ L, x < n := fun x hx => by have := h.2.1 x hx; have := h.2.2; omega
  refine ⟨setN (fun x => L.contains x) n, setN_lt _ _, ?_⟩
  unfold eltN
  have hf : ((List.range 7).filter (setN (fun x => L.contains x) n).testBit) = (List.range 7).filter fun x => L.contains x := by
    refine List.filter_congr fun x hx => ?_
    rw [setN_bit]
    by_cases hxn : x < n
    · simp [hxn]
    · have : L.contains x = false := by
        rw [Bool.eq_false_iff, Ne, List.contains_iff_mem]
        exact fun hm => hxn (hlt x hm)
      rw [this]; simp
  rw [hf]
  have hs : ((List.range 7).filter fun x => L.contains x).Pairwise (· < ·) := List.pairwise_lt_range.filter _
  refine List.Perm.eq_of_pairwise (le := fun a b => a < b) (fun a b _ _ h1 h2 => by omega) hs h.1 ?_
  refine (List.perm_ext_iff_of_nodup ((List.nodup_range (n := 7)).filter _) (h.1.imp fun h => by omega)).2 fun x => ?_
  rw [List.mem_filter, List.mem_range, List.contains_iff_mem]
  exact ⟨fun h => h.2, fun hx => ⟨by have := hlt x hx; omega, hx⟩⟩
/-- What impl finds is what spec's recursion finds. -/
theorem caps_best {F : Int → Int → Int → Int} {sg : Int} {n : Nat} (h7 : n ≤ 7) {m : List Nat} {xs : List (List Nat)} (h : capsTo F sg (2 ^ n) = m :: xs) : minK m xs = chF (okC F sg) n n [] := by
  obtain ⟨h1, h2, h3⟩ := minK_fact xs m
  have hin : minK m xs ∈ capsTo F sg (2 ^ n) := by
    rw [h]
    rcases h1 with h1 | h1
    · rw [h1]; exact List.mem_cons_self
    · exact List.mem_cons_of_mem _ h1
  obtain ⟨⟨S, hS, hSe⟩, ht⟩ := capsTo_mem.1 hin
  have ha : Asc n (minK m xs) := hSe ▸ elt_asc hS
  have hb := chF_best h7 (F := F) (sg := sg) n [] (asc_nil n) (triS_nil F sg) (by rw [fromC_nil]; omega) (minK m xs) ha ht
  have hca := chF_asc (ok := okC F sg) n [] (asc_nil n)
  have hct := (chF_ext (F := F) (sg := sg) (n := n) n [] (triS_nil F sg)).1
  obtain ⟨T, hT, hTe⟩ := asc_elt h7 hca
  have hcm : chF (okC F sg) n n [] ∈ capsTo F sg (2 ^ n) := capsTo_mem.2 ⟨⟨T, hT, hTe⟩, hct⟩
  rw [h] at hcm
  have hle : key (minK m xs) ≤ key (chF (okC F sg) n n []) := by
    rcases List.mem_cons.1 hcm with e | e
    · rw [e]; exact h2
    · exact h3 _ e
  rw [List.nil_append] at hb
  exact key_inj (asc_sm h7 ha) (asc_sm h7 hca) (by omega)
theorem caps_some {F : Int → Int → Int → Int} {sg : Int} (n : Nat) : ∃ m xs, capsTo F sg (2 ^ n) = m :: xs := by
  have hm : ([] : List Nat) ∈ capsTo F sg (2 ^ n) := capsTo_mem.2 ⟨⟨0, Nat.pow_pos (by omega), by decide⟩, triS_nil F sg⟩
  cases e : capsTo F sg (2 ^ n) with
  | nil => rw [e] at hm; cases hm
  | cons m xs => exact ⟨m, xs, rfl⟩
end Go.Proofs.YtflcpgdgoencgaaGreatDoor.Sg
