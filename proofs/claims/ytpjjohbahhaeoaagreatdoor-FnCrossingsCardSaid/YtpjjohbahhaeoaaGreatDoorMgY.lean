/- Several texts in one: CvMath, CvSum, CvFour. -/
import Derived.Test.YtpjjohbahhaeoaaGreatDoorMgL
import Derived.Test.YtpjjohbahhaeoaaGreatDoorMgK
import Derived.Test.YtpjjohbahhaeoaaGreatDoorLeHit
/- Convex sets, on plain functions: what is inside a triangle of a set is inside one of its extreme elements; the convex sets that hold no other element inside have an alternating sum. -/
namespace Go.Proofs.YtpjjohbahhaeoaaGreatDoor.Sg
/-- Is p inside a triangle of these? -/
def Tri (n : Nat) (s : List UInt8) (X : Nat → Prop) (p : Nat) : Prop := ∃ a b c, X a ∧ X b ∧ X c ∧ In n s p a b c
section
variable {n : Nat} {s : List UInt8}
theorem Tri.mono {X Y : Nat → Prop} {p : Nat} (h : Tri n s X p) (hs : ∀ x, X x → Y x) : Tri n s Y p := by
  obtain ⟨a, b, c, ha, hb, hc, hi⟩ := h
  exact ⟨a, b, c, hs a ha, hs b hb, hs c hc, hi⟩
theorem tri_drop (h : aciB n s = true) {X : Nat → Prop} {y p : Nat} (hy : Tri n s X y) (hp : Tri n s (fun z => z = y ∨ X z) p) : Tri n s X p := by
  obtain ⟨d, e, g, hd, he, hg, hi⟩ := hy
  obtain ⟨a, b, c, ha, hb, hc, hin⟩ := hp
  have dd := in_dis h hin
  unfold Dis at dd
  have no : ∀ b c, X b → X c → In n s p y b c → Tri n s X p := fun b c hb hc h2 => keep_out h X hb hc hd he hg hi h2
  rcases ha with rfl | ha
  · exact no b c (hb.resolve_left (by omega)) (hc.resolve_left (by omega)) hin
  · rcases hb with rfl | hb
    · exact no a c ha (hc.resolve_left (by omega)) (in_s1 h hin)
    · rcases hc with rfl | hc
      · exact no a b ha hb (in_s1 h (in_s2 h hin))
      · exact ⟨a, b, c, ha, hb, hc, hin⟩
theorem tri_gen (h : aciB n s = true) (E : Nat → Prop) : ∀ R : List Nat, (∀ y ∈ R, Tri n s (fun z => E z ∨ z ∈ R) y) → ∀ p, Tri n s (fun z => E z ∨ z ∈ R) p → Tri n s E p
  | [], _, p, hp => hp.mono fun x hx => by
      rcases hx with hx | hx
      · exact hx
      · cases hx
  | y :: R, hR, p, hp => by
    have fix : ∀ z, (E z ∨ z ∈ y :: R) → z ≠ y → (E z ∨ z ∈ R) := fun z hz hne => by
      rcases hz with hz | hz
      · exact .inl hz
      · rcases List.mem_cons.1 hz with e | e
        · exact absurd e hne
        · exact .inr e
    have hy : Tri n s (fun z => E z ∨ z ∈ R) y := by
      obtain ⟨a, b, c, ha, hb, hc, hi⟩ := hR y List.mem_cons_self
      have dd := in_dis h hi
      unfold Dis at dd
      exact ⟨a, b, c, fix a ha (by omega), fix b hb (by omega), fix c hc (by omega), hi⟩
    have step : ∀ q, Tri n s (fun z => E z ∨ z ∈ y :: R) q → Tri n s (fun z => E z ∨ z ∈ R) q := fun q hq => tri_drop h hy (hq.mono fun z hz => by
      by_cases e : z = y
      · exact .inl e
      · exact .inr (fix z hz e))
    exact tri_gen h E R (fun y' hy' => step y' (hR y' (List.mem_cons_of_mem _ hy'))) p (step p hp)
/-- A set's elements. -/
def Bt (S x : Nat) : Prop := S.testBit x = true
theorem inT_tri (h : aciB n s = true) (S p : Nat) : inT (sgnF (lookS n s)) n S p = true ↔ Tri n s (Bt S) p := inT_iff h S p
theorem inT_no (h : aciB n s = true) {S p : Nat} (hn : ¬ Tri n s (Bt S) p) : inT (sgnF (lookS n s)) n S p = false := by
  cases hc : inT (sgnF (lookS n s)) n S p
  · rfl
  · exact absurd ((inT_tri h S p).1 hc) hn
theorem bit_low {S x : Nat} (hS : S < 2 ^ n) (hx : S.testBit x = true) : x < n := by
  rcases Nat.lt_or_ge x n with h | h
  · exact h
  · rw [Nat.testBit_lt_two_pow (Nat.lt_of_lt_of_le hS (Nat.pow_le_pow_right (by omega) h))] at hx; cases hx
theorem exS_bit (S j : Nat) : (extS (sgnF (lookS n s)) n S).testBit j = (decide (j < n) && (S.testBit j && !inT (sgnF (lookS n s)) n S j)) := extTo_bit _ _ _ _ _
theorem exS_lt (S : Nat) : extS (sgnF (lookS n s)) n S < 2 ^ n := extTo_lt _ _ _ _
theorem exS_sub {S j : Nat} (hj : (extS (sgnF (lookS n s)) n S).testBit j = true) : S.testBit j = true := by
  rw [exS_bit] at hj
  simp only [Bool.and_eq_true] at hj
  exact hj.2.1
/-- Its extreme elements' triangles hold all that its triangles hold. -/
theorem tri_ext (h : aciB n s = true) {S p : Nat} (hS : S < 2 ^ n) (hp : Tri n s (Bt S) p) : Tri n s (Bt (extS (sgnF (lookS n s)) n S)) p := by
  have hsplit : ∀ z, Bt S z → (Bt (extS (sgnF (lookS n s)) n S) z ∨ z ∈ (List.range n).filter fun j => S.testBit j && inT (sgnF (lookS n s)) n S j) := fun z hz => by
    have hzn := bit_low hS hz
    cases hc : inT (sgnF (lookS n s)) n S z
    · left
      unfold Bt at hz ⊢
      rw [exS_bit, hz, hc]
      simp [hzn]
    · right
      unfold Bt at hz
      exact List.mem_filter.2 ⟨List.mem_range.2 hzn, by rw [hz, hc]; rfl⟩
  refine tri_gen h _ ((List.range n).filter fun j => S.testBit j && inT (sgnF (lookS n s)) n S j) (fun y hy => ?_) p (hp.mono hsplit)
  have hy := (List.mem_filter.1 hy).2
  simp only [Bool.and_eq_true] at hy
  exact ((inT_tri h S y).1 hy.2).mono hsplit
/-- The first element inside an extreme elements' triangle. -/
def cndT (F : Int → Int → Int → Int) (n E t : Nat) : Bool := !E.testBit t && inT F n E t
def tgT (F : Int → Int → Int → Int) (n E : Nat) : Option Nat := (List.range n).find? (cndT F n E)
theorem tog_ext (h : aciB n s = true) {S t : Nat} (hS : S < 2 ^ n) (ht : tgT (sgnF (lookS n s)) n (extS (sgnF (lookS n s)) n S) = some t) :
    t < n ∧ S ^^^ 2 ^ t < 2 ^ n ∧ extS (sgnF (lookS n s)) n (S ^^^ 2 ^ t) = extS (sgnF (lookS n s)) n S := by
  have hc := List.find?_some ht
  have htn := List.mem_range.1 (List.mem_of_find?_eq_some ht)
  unfold cndT at hc
  simp only [Bool.and_eq_true, Bool.not_eq_true'] at hc
  obtain ⟨hc1, hc2⟩ := hc
  have hE := (inT_tri h _ t).1 hc2
  have hpt : 2 ^ t < 2 ^ n := Nat.pow_lt_pow_right (by omega) htn
  have hlt : S ^^^ 2 ^ t < 2 ^ n := Nat.xor_lt_two_pow hS hpt
  have hbit : ∀ x, (S ^^^ 2 ^ t).testBit x = (S.testBit x ^^ decide (t = x)) := fun x => by
    rw [Nat.testBit_xor, Nat.testBit_two_pow]
  have sub1 : ∀ x, Bt (extS (sgnF (lookS n s)) n S) x → Bt (S ^^^ 2 ^ t) x := fun x hx => by
    have e : t ≠ x := fun e => by subst e; unfold Bt at hx; rw [hc1] at hx; cases hx
    show (S ^^^ 2 ^ t).testBit x = true
    rw [hbit, exS_sub hx]
    simp [e]
  have tS : Tri n s (Bt S) t := hE.mono fun x hx => exS_sub hx
  have iff : ∀ j, inT (sgnF (lookS n s)) n (S ^^^ 2 ^ t) j = inT (sgnF (lookS n s)) n S j := fun j => by
    rw [Bool.eq_iff_iff, inT_tri h, inT_tri h]
    constructor
    · intro hj
      refine tri_drop h tS (hj.mono fun x hx => ?_)
      by_cases e : x = t
      · exact .inl e
      · right
        have hx : (S ^^^ 2 ^ t).testBit x = true := hx
        rw [hbit] at hx
        have e2 : ¬ t = x := fun e2 => e e2.symm
        show S.testBit x = true
        simpa [e2] using hx
    · intro hj
      exact (tri_ext h hS hj).mono sub1
  refine ⟨htn, hlt, set_ext (exS_lt _) (exS_lt _) fun x hx => ?_⟩
  rw [exS_bit, exS_bit, iff x, hbit]
  by_cases e : t = x
  · subst e
    rw [(inT_tri h S t).2 tS]
    simp
  · simp [e]
/-- Convex sets that hold no other element inside. -/
def freeB (F : Int → Int → Int → Int) (n S : Nat) : Bool := (extS F n S == S) && (List.range n).all fun p => S.testBit p || !inT F n S p
theorem free_iff (h : aciB n s = true) {S : Nat} (hS : S < 2 ^ n) : freeB (sgnF (lookS n s)) n S = true ↔ tgT (sgnF (lookS n s)) n (extS (sgnF (lookS n s)) n S) = none := by
  unfold freeB tgT
  rw [Bool.and_eq_true, beq_iff_eq, List.all_eq_true, List.find?_eq_none]
  constructor
  · rintro ⟨he, hall⟩ t ht
    rw [he]
    have := hall t ht
    unfold cndT
    intro hc
    simp only [Bool.and_eq_true, Bool.not_eq_true'] at hc
    rw [hc.1, hc.2] at this
    cases this
  · intro hno
    have hno : ∀ t, t < n → (extS (sgnF (lookS n s)) n S).testBit t = false → ¬ Tri n s (Bt (extS (sgnF (lookS n s)) n S)) t := fun t ht h1 h2 => by
      refine hno t (List.mem_range.2 ht) ?_
      unfold cndT
      rw [h1, (inT_tri h _ t).2 h2]; rfl
    have he : extS (sgnF (lookS n s)) n S = S := set_ext (exS_lt _) hS fun x hx => by
      cases hb : S.testBit x
      · cases hb2 : (extS (sgnF (lookS n s)) n S).testBit x
        · rfl
        · rw [exS_sub hb2] at hb; cases hb
      · cases hb2 : (extS (sgnF (lookS n s)) n S).testBit x
        · exfalso
          have hb3 := hb2
          rw [exS_bit, hb] at hb3
          simp [hx] at hb3
          exact hno x hx hb2 (tri_ext h hS ((inT_tri h S x).1 hb3))
        · rfl
    refine ⟨he, fun p hp => ?_⟩
    cases hb : S.testBit p
    · rw [he] at hno
      rw [inT_no h (hno p (List.mem_range.1 hp) hb)]; rfl
    · rfl
/-- Sets of an even number of elements count 1, others -1. -/
def parS (S : Nat) : Int := if pcS S % 2 = 0 then 1 else -1
theorem par_tog0 : ∀ S, S < 128 → ∀ t, t < 7 → (pcS (S ^^^ 2 ^ t) + pcS S) % 2 = 1 := by decide +kernel
theorem par_tog {S t : Nat} (hS : S < 128) (ht : t < 7) : parS (S ^^^ 2 ^ t) = -(parS S) := by
  have := par_tog0 S hS t ht
  unfold parS
  split <;> split <;> omega
theorem perm_sum {f : Nat → Int} {L M : List Nat} (h : L.Perm M) : (L.map f).sum = (M.map f).sum := by
  induction h with
  | nil => rfl
  | cons x _ ih => rw [List.map_cons, List.map_cons, List.sum_cons, List.sum_cons, ih]
  | swap x y L => simp only [List.map_cons, List.sum_cons]; omega
  | trans _ _ h1 h2 => exact h1.trans h2
theorem sum_neg (f : Nat → Int) : ∀ L : List Nat, (L.map fun x => -(f x)).sum = -((L.map f).sum)
  | [] => rfl
  | x :: L => by rw [List.map_cons, List.map_cons, List.sum_cons, List.sum_cons, sum_neg f L]; omega
/-- A sum over what an involution pairs off. -/
theorem sum_inv {f : Nat → Int} {τ : Nat → Nat} {L : List Nat} (hd : L.Nodup) (hm : ∀ x ∈ L, τ x ∈ L) (hi : ∀ x ∈ L, τ (τ x) = x) (hf : ∀ x ∈ L, f (τ x) = -(f x)) : (L.map f).sum = 0 := by
  have hp : (L.map τ).Perm L := by
    refine (List.perm_ext_iff_of_nodup ?_ hd).2 fun x => ⟨fun hx => ?_, fun hx => ?_⟩
    · show List.Pairwise _ _
      rw [List.pairwise_map]
      refine List.Pairwise.imp_of_mem (fun {a b} ha hb hab e => hab ?_) hd
      rw [← hi a ha, ← hi b hb, e]
    · obtain ⟨y, hy, rfl⟩ := List.mem_map.1 hx
      exact hm y hy
    · exact List.mem_map.2 ⟨τ x, hm x hx, hi x hx⟩
  have h1 := perm_sum (f := f) hp
  rw [List.map_map] at h1
  have h2 : (L.map (f ∘ τ)).sum = (L.map fun x => -(f x)).sum := by
    congr 1
    exact List.map_congr_left fun x hx => hf x hx
  rw [h2, sum_neg] at h1
  omega
theorem xor_two (S t : Nat) : S ^^^ 2 ^ t ^^^ 2 ^ t = S := by rw [Nat.xor_assoc, Nat.xor_self, Nat.xor_zero]
theorem sum_split (f : Nat → Int) (q : Nat → Bool) : ∀ L : List Nat, (L.map f).sum = ((L.filter q).map f).sum + ((L.filter fun x => !q x).map f).sum
  | [] => rfl
  | x :: L => by
    have ih := sum_split f q L
    cases h : q x <;> simp [h, ih] <;> omega
/-- The alternating sum of free sets is nothing. -/
theorem free_sum (h : aciB n s = true) : (((List.range (2 ^ n)).filter (freeB (sgnF (lookS n s)) n)).map parS).sum = 0 := by
  obtain ⟨h3, h7⟩ := aciB_n h
  have h7 : n ≤ 7 := by omega
  have hp := pow_le7 h7
  have h1 : ((List.range (2 ^ n)).map parS).sum = 0 := by
    refine sum_inv (τ := fun S => S ^^^ 2 ^ 0) List.nodup_range (fun x hx => ?_) (fun x _ => xor_two x 0) (fun x hx => ?_)
    · exact List.mem_range.2 (Nat.xor_lt_two_pow (List.mem_range.1 hx) (Nat.pow_lt_pow_right (by omega) (by omega)))
    · have := List.mem_range.1 hx
      exact par_tog (by omega) (by omega)
  have h2 : (((List.range (2 ^ n)).filter fun x => !freeB (sgnF (lookS n s)) n x).map parS).sum = 0 := by
    have key : ∀ x ∈ (List.range (2 ^ n)).filter (fun x => !freeB (sgnF (lookS n s)) n x), x < 2 ^ n ∧ ∃ t, tgT (sgnF (lookS n s)) n (extS (sgnF (lookS n s)) n x) = some t := fun x hx => by
      obtain ⟨a, b⟩ := List.mem_filter.1 hx
      have a := List.mem_range.1 a
      refine ⟨a, ?_⟩
      cases ht : tgT (sgnF (lookS n s)) n (extS (sgnF (lookS n s)) n x) with
      | none => rw [(free_iff h a).2 ht] at b; cases b
      | some t => exact ⟨t, rfl⟩
    refine sum_inv (τ := fun S => match tgT (sgnF (lookS n s)) n (extS (sgnF (lookS n s)) n S) with | some t => S ^^^ 2 ^ t | none => S) (List.nodup_range.filter _) (fun x hx => ?_) (fun x hx => ?_) (fun x hx => ?_)
    · obtain ⟨a, t, ht⟩ := key x hx
      obtain ⟨-, k2, k3⟩ := tog_ext h a ht
      show (match tgT (sgnF (lookS n s)) n (extS (sgnF (lookS n s)) n x) with | some t => x ^^^ 2 ^ t | none => x) ∈ _
      rw [ht]
      refine List.mem_filter.2 ⟨List.mem_range.2 k2, ?_⟩
      cases hc : freeB (sgnF (lookS n s)) n (x ^^^ 2 ^ t)
      · rfl
      · rw [free_iff h k2, k3, ht] at hc; cases hc
    · obtain ⟨a, t, ht⟩ := key x hx
      obtain ⟨-, k2, k3⟩ := tog_ext h a ht
      rw [ht]
      dsimp only
      rw [k3, ht]
      exact xor_two x t
    · obtain ⟨a, t, ht⟩ := key x hx
      obtain ⟨k1, -, -⟩ := tog_ext h a ht
      rw [ht]
      exact par_tog (by omega) (by omega)
  have h3 := sum_split parS (freeB (sgnF (lookS n s)) n) (List.range (2 ^ n))
  omega
end
end Go.Proofs.YtpjjohbahhaeoaaGreatDoor.Sg
/- Convex sets, on plain functions: how many empty ones there are, with signs; the convex sets of four elements. -/
namespace Go.Proofs.YtpjjohbahhaeoaaGreatDoor.Sg
/-- Convex sets and empty ones, as spec tells them. -/
def cvS (F : Int → Int → Int → Int) (n S : Nat) : Bool := decide (3 ≤ pcS S) && extS F n S == S
def emS (F : Int → Int → Int → Int) (n S : Nat) : Bool := (List.range n).all fun p => S.testBit p || !inT F n S p
theorem free_cv (F : Int → Int → Int → Int) (n S : Nat) (h : 3 ≤ pcS S) : freeB F n S = (cvS F n S && emS F n S) := by
  unfold freeB cvS emS
  rw [decide_eq_true h]; rfl
theorem cp_consV (P : Nat → Bool) (a : Nat) (L : List Nat) : (a :: L).countP P = bit (P a) + L.countP P := by
  rw [List.countP_cons]
  cases h : P a
  · simp [bit]
  · simp [bit]; omega
theorem alt_cnt (q : Nat → Bool) : ∀ L : List Nat, (∀ S ∈ L, pcS S ≤ 7) → ((L.filter q).map parS).sum =
    ((L.countP fun S => pcS S == 0 && q S : Nat) : Int) - (L.countP fun S => pcS S == 1 && q S : Nat) + (L.countP fun S => pcS S == 2 && q S : Nat) - (L.countP fun S => pcS S == 3 && q S : Nat) + (L.countP fun S => pcS S == 4 && q S : Nat) - (L.countP fun S => pcS S == 5 && q S : Nat) + (L.countP fun S => pcS S == 6 && q S : Nat) - (L.countP fun S => pcS S == 7 && q S : Nat)
  | [], _ => rfl
  | S :: L, h => by
    have ih := alt_cnt q L fun x hx => h x (List.mem_cons_of_mem _ hx)
    have h7 := h S List.mem_cons_self
    simp only [cp_consV]
    cases hq : q S
    · rw [List.filter_cons_of_neg (by rw [hq]; decide), ih]
      simp only [Bool.and_false, show bit false = 0 from rfl]
      omega
    · rw [List.filter_cons_of_pos hq, List.map_cons, List.sum_cons, ih]
      unfold parS
      simp only [Bool.and_true]
      rcases (by omega : pcS S = 0 ∨ pcS S = 1 ∨ pcS S = 2 ∨ pcS S = 3 ∨ pcS S = 4 ∨ pcS S = 5 ∨ pcS S = 6 ∨ pcS S = 7) with e | e | e | e | e | e | e | e <;> rw [e] <;> simp [bit] <;> omega
section
variable {n : Nat} {s : List UInt8}
theorem tri_three (h : aciB n s = true) {S p : Nat} (hp : inT (sgnF (lookS n s)) n S p = true) : 3 ≤ pcS S := by
  obtain ⟨h3, h7⟩ := aciB_n h
  obtain ⟨a, b, c, ha, hb, hc, hi⟩ := (inT_tri h S p).1 hp
  have dd := in_dis h hi
  unfold Dis at dd
  rw [pcS_eq, List.countP_eq_length_filter]
  refine nodup_sub [a, b, c] _ (by simp; omega) fun x hx => ?_
  simp only [List.mem_cons, List.not_mem_nil, or_false] at hx
  rcases hx with rfl | rfl | rfl
  · exact List.mem_filter.2 ⟨List.mem_range.2 (by omega), ha⟩
  · exact List.mem_filter.2 ⟨List.mem_range.2 (by omega), hb⟩
  · exact List.mem_filter.2 ⟨List.mem_range.2 (by omega), hc⟩
theorem free_small (h : aciB n s = true) {S : Nat} (hS : S < 2 ^ n) (h2 : pcS S ≤ 2) : freeB (sgnF (lookS n s)) n S = true := by
  have hno : ∀ p, inT (sgnF (lookS n s)) n S p = false := fun p => by
    cases hc : inT (sgnF (lookS n s)) n S p
    · rfl
    · have := tri_three h hc; omega
  unfold freeB
  rw [Bool.and_eq_true, beq_iff_eq, List.all_eq_true]
  refine ⟨set_ext (exS_lt _) hS fun x hx => ?_, fun p _ => by rw [hno p]; simp⟩
  rw [exS_bit, hno x]
  simp [hx]
theorem small_counts : ∀ n, n < 8 → (List.range (2 ^ n)).countP (fun S => pcS S == 0) = 1 ∧ (List.range (2 ^ n)).countP (fun S => pcS S == 1) = n ∧ (List.range (2 ^ n)).countP (fun S => pcS S == 2) = n * (n - 1) / 2 := by decide +kernel
/-- How many empty sets of k elements. -/
def emN (F : Int → Int → Int → Int) (n k : Nat) : Nat := (List.range (2 ^ n)).countP fun S => pcS S == k && (cvS F n S && emS F n S)
theorem em_free (k : Nat) (hk : 3 ≤ k) : (List.range (2 ^ n)).countP (fun S => pcS S == k && freeB (sgnF (lookS n s)) n S) = emN (sgnF (lookS n s)) n k := by
  unfold emN
  refine List.countP_congr fun S _ => ?_
  cases hp : (pcS S == k)
  · simp
  · have hp := eq_of_beq hp
    rw [free_cv _ _ _ (by omega)]
theorem free_low (h : aciB n s = true) (k : Nat) (hk : k ≤ 2) : (List.range (2 ^ n)).countP (fun S => pcS S == k && freeB (sgnF (lookS n s)) n S) = (List.range (2 ^ n)).countP fun S => pcS S == k := by
  refine List.countP_congr fun S hS => ?_
  cases hp : (pcS S == k)
  · simp
  · have hp := eq_of_beq hp
    rw [free_small h (List.mem_range.1 hS) (by omega)]
    simp
/-- The alternating sum of the empty sets' numbers. -/
theorem em_alt (h : aciB n s = true) : (emN (sgnF (lookS n s)) n 3 : Int) - emN (sgnF (lookS n s)) n 4 + emN (sgnF (lookS n s)) n 5 - emN (sgnF (lookS n s)) n 6 + emN (sgnF (lookS n s)) n 7 = ((n * (n - 1) / 2 : Nat) : Int) - n + 1 := by
  obtain ⟨h3, h7⟩ := aciB_n h
  have h7 : n ≤ 7 := by omega
  have hs := free_sum h
  rw [alt_cnt _ _ fun S _ => pcS_le S] at hs
  rw [free_low h 0 (by omega), free_low h 1 (by omega), free_low h 2 (by omega), em_free 3 (by omega), em_free 4 (by omega), em_free 5 (by omega), em_free 6 (by omega), em_free 7 (by omega)] at hs
  obtain ⟨k0, k1, k2⟩ := small_counts n (by omega)
  rw [k0, k1, k2] at hs
  omega
theorem pcS_low (n S : Nat) (hS : S < 2 ^ n) : pcS S ≤ n := by
  rw [pcS_eq, List.countP_eq_length_filter]
  refine Nat.le_trans (nodup_sub _ (List.range n) (List.nodup_range.filter _) fun x hx => ?_) (by simp)
  exact List.mem_range.2 (bit_low hS (List.mem_filter.1 hx).2)
/-- There are none of more elements than there are. -/
theorem em_none (F : Int → Int → Int → Int) {k : Nat} (hk : n < k) : emN F n k = 0 := by
  unfold emN
  rw [List.countP_eq_zero]
  intro S hS
  have := pcS_low n S (List.mem_range.1 hS)
  have e : (pcS S == k) = false := beq_eq_false_iff_ne.2 (by omega)
  rw [e]; simp
end
/-- What EvenSum adds up before k. -/
def evTo (c : Nat → Nat) : Nat → Int
  | 0 => 0
  | k + 1 => evTo c k + (if k < 3 then 0 else if k % 2 = 1 then (c k : Int) else -(c k : Int))
theorem ev_all {n : Nat} {s : List UInt8} (h : aciB n s = true) : evTo (emN (sgnF (lookS n s)) n) (n + 1) = ((n * (n - 1) / 2 : Nat) : Int) - n + 1 := by
  obtain ⟨h3, h7⟩ := aciB_n h
  have hz := fun k hk => em_none (n := n) (sgnF (lookS n s)) (k := k) hk
  have ha := em_alt h
  generalize emN (sgnF (lookS n s)) n = c at ha hz ⊢
  rcases (by omega : n = 3 ∨ n = 4 ∨ n = 5 ∨ n = 6 ∨ n = 7) with rfl | rfl | rfl | rfl | rfl
  · have e4 := hz 4 (by omega); have e5 := hz 5 (by omega); have e6 := hz 6 (by omega); have e7 := hz 7 (by omega)
    simp [evTo]; simp at ha; omega
  · have e5 := hz 5 (by omega); have e6 := hz 6 (by omega); have e7 := hz 7 (by omega)
    simp [evTo]; simp at ha; omega
  · have e6 := hz 6 (by omega); have e7 := hz 7 (by omega)
    simp [evTo]; simp at ha; omega
  · have e7 := hz 7 (by omega)
    simp [evTo]; simp at ha; omega
  · simp [evTo]; simp at ha; omega
/-- The convex sets of four elements are as many as the fours without an inner element. -/
def cvN (F : Int → Int → Int → Int) (n k : Nat) : Nat := (List.range (2 ^ n)).countP fun S => pcS S == k && cvS F n S
def setT (t : T4) : Nat := 2 ^ t.1 + 2 ^ t.2.1 + 2 ^ t.2.2.1 + 2 ^ t.2.2.2
theorem fours_sets0 : ∀ n, n < 8 → ((List.range (2 ^ n)).filter fun S => pcS S == 4).isPerm ((fours n).map setT) = true := by decide +kernel
end Go.Proofs.YtpjjohbahhaeoaaGreatDoor.Sg
/- Convex sets, on plain functions: those of four elements; the largest one. -/
namespace Go.Proofs.YtpjjohbahhaeoaaGreatDoor.Sg
section
variable {n : Nat} {s : List UInt8}
theorem in_bools (h : aciB n s = true) {a b c d : Nat} (h1 : a < b) (h2 : b < c) (h3 : c < d) (h4 : d < n) : ∃ w x y z : Bool, cir (sgnF (lookS n s)) a b c d = cv4 (sg1 w) (sg1 x) (sg1 y) (sg1 z) ∧
    (In n s a b c d ↔ ((x == w) && (y == !w) && (z == w)) = true) ∧ (In n s b a c d ↔ ((w == x) && ((!y) == !x) && ((!z) == x)) = true) ∧ (In n s c a b d ↔ (((!w) == y) && ((!x) == !y) && (z == y)) = true) ∧ (In n s d a b c ↔ ((w == z) && (x == !z) && (y == z)) = true) := by
  have O := om_sgn h
  obtain ⟨w, e0⟩ := O.one (a := b) (b := c) (c := d) (by omega) (by omega) h4 (by omega) (by omega) (by omega)
  obtain ⟨x, e1⟩ := O.one (a := a) (b := c) (c := d) (by omega) (by omega) h4 (by omega) (by omega) (by omega)
  obtain ⟨y, e2⟩ := O.one (a := a) (b := b) (c := d) (by omega) (by omega) h4 (by omega) (by omega) (by omega)
  obtain ⟨z, e3⟩ := O.one (a := a) (b := b) (c := c) (by omega) (by omega) (by omega) (by omega) (by omega) (by omega)
  have r1 := O.s1 (a := a) (b := b) (c := d) (by omega) (by omega) (by omega)
  have r2 := O.s1 (a := a) (b := b) (c := c) (by omega) (by omega) (by omega)
  have r3 := O.s1 (a := b) (b := c) (c := d) (by omega) (by omega) (by omega)
  have r4 := O.s1 (a := a) (b := c) (c := d) (by omega) (by omega) (by omega)
  have r5 := rot (lookS n s) (a := (a : Int)) (b := b) (c := c) (by omega) (by omega) (by omega)
  have r6 := rot (lookS n s) (a := (b : Int)) (b := c) (c := d) (by omega) (by omega) (by omega)
  have r7 := rot (lookS n s) (a := (a : Int)) (b := c) (c := d) (by omega) (by omega) (by omega)
  have r8 := rot (lookS n s) (a := (a : Int)) (b := b) (c := d) (by omega) (by omega) (by omega)
  unfold sgS at e0 e1 e2 e3 r1 r2 r3 r4
  rw [e2, sg1_neg] at r1
  rw [e3, sg1_neg] at r2
  rw [e0, sg1_neg] at r3
  rw [e1, sg1_neg] at r4
  rw [e3] at r5
  rw [e0] at r6
  rw [e1] at r7
  rw [e2] at r8
  refine ⟨w, x, y, z, cir_of e0 e1 e2 e3, ?_, ?_, ?_, ?_⟩
  · unfold In; rw [cir_of e0 e1 e2 e3]; exact (by rw [← isIn_v w x y z]; rfl)
  · unfold In; rw [cir_of e1 e0 r1 r2]; exact (by rw [← isIn_v x w (!y) (!z)]; rfl)
  · unfold In; rw [cir_of e2 r3 r4 r5]; exact (by rw [← isIn_v y (!w) (!x) z]; rfl)
  · unfold In; rw [cir_of e3 r6 r7 r8]; exact (by rw [← isIn_v z w x y]; rfl)
theorem hasI_bools : ∀ w x y z : Bool, patV (cv4 (sg1 w) (sg1 x) (sg1 y) (sg1 z)) = ((((x == w) && (y == !w) && (z == w)) || ((w == x) && ((!y) == !x) && ((!z) == x))) || ((((!w) == y) && ((!x) == !y) && (z == y)) || ((w == z) && (x == !z) && (y == z)))) := by decide +kernel
theorem hasI_yes {f : Int → Int → Int → Int} {a b c d : Nat} (h : patV (cir f a b c d) = true) : hasI f (a, b, c, d) = true := by
  unfold patV at h
  simp only [Bool.or_eq_true, beq_iff_eq] at h
  have na : ((a : Int) == -1) = false := beq_eq_false_iff_ne.2 (by omega)
  have nb : ((b : Int) == -1) = false := beq_eq_false_iff_ne.2 (by omega)
  have nc : ((c : Int) == -1) = false := beq_eq_false_iff_ne.2 (by omega)
  have nd : ((d : Int) == -1) = false := beq_eq_false_iff_ne.2 (by omega)
  unfold hasI
  rcases h with h | h | h | h <;> dsimp only <;> rw [h, inn4_eq] <;> simp <;> omega
theorem has_in (h : aciB n s = true) {a b c d : Nat} (h1 : a < b) (h2 : b < c) (h3 : c < d) (h4 : d < n) : hasI (sgnF (lookS n s)) (a, b, c, d) = true ↔ (In n s a b c d ∨ In n s b a c d) ∨ In n s c a b d ∨ In n s d a b c := by
  obtain ⟨w, x, y, z, e, i1, i2, i3, i4⟩ := in_bools h h1 h2 h3 h4
  have hp : hasI (sgnF (lookS n s)) (a, b, c, d) = patV (cir (sgnF (lookS n s)) a b c d) := by
    cases hc : patV (cir (sgnF (lookS n s)) a b c d)
    · exact hasI_pat hc
    · exact hasI_yes hc
  rw [hp, e, hasI_bools, i1, i2, i3, i4]
  simp only [Bool.or_eq_true]
theorem setT_bits : ((fours 7).all fun t => pcS (setT t) == 4 && ((List.range 7).all fun x => (setT t).testBit x == (x == t.1 || (x == t.2.1 || (x == t.2.2.1 || x == t.2.2.2))))) = true := by decide +kernel
theorem setT_bit {t : T4} (h7 : n ≤ 7) (ht : t ∈ fours n) : pcS (setT t) = 4 ∧ setT t < 2 ^ n ∧ ∀ x, (setT t).testBit x = true ↔ x = t.1 ∨ x = t.2.1 ∨ x = t.2.2.1 ∨ x = t.2.2.2 := by
  obtain ⟨h1, h2, h3, h4⟩ := fours_mem h7 ht
  have key := List.all_eq_true.1 setT_bits t (by obtain ⟨a, b, c, d⟩ := t; exact fours_has (by omega) h1 h2 h3 (by show d < 7; have h4 : d < n := h4; omega))
  simp only [Bool.and_eq_true, beq_iff_eq, List.all_eq_true, List.mem_range] at key
  have e0 : 2 ^ (t.1 + 1) ≤ 2 ^ t.2.1 := Nat.pow_le_pow_right (by omega) (by omega)
  have e1 : 2 ^ (t.2.1 + 1) ≤ 2 ^ t.2.2.1 := Nat.pow_le_pow_right (by omega) (by omega)
  have e2 : 2 ^ (t.2.2.1 + 1) ≤ 2 ^ t.2.2.2 := Nat.pow_le_pow_right (by omega) (by omega)
  have e3 : 2 ^ (t.2.2.2 + 1) ≤ 2 ^ n := Nat.pow_le_pow_right (by omega) (by omega)
  rw [Nat.pow_succ] at e0 e1 e2 e3
  have hp := Nat.pow_pos (n := t.1) (show 0 < 2 by omega)
  have hlt : setT t < 2 ^ n := by unfold setT; omega
  refine ⟨key.1, hlt, fun x => ?_⟩
  rcases Nat.lt_or_ge x 7 with hx | hx
  · rw [key.2 x hx]
    simp only [Bool.or_eq_true, beq_iff_eq]
  · constructor
    · intro hb
      have := bit_low hlt hb
      omega
    · intro hb
      omega
theorem in_perm (h : aciB n s = true) {p b c d x y z : Nat} (hx : x = b ∨ x = c ∨ x = d) (hy : y = b ∨ y = c ∨ y = d) (hz : z = b ∨ z = c ∨ z = d) (hi : In n s p x y z) : In n s p b c d := by
  have dd := in_dis h hi
  unfold Dis at dd
  rcases hx with hx | hx | hx
  · rcases hy with hy | hy | hy
    · exfalso; omega
    · rcases hz with hz | hz | hz
      · exfalso; omega
      · exfalso; omega
      · subst hx hy hz; exact hi
    · rcases hz with hz | hz | hz
      · exfalso; omega
      · subst hx hy hz; exact in_s2 h hi
      · exfalso; omega
  · rcases hy with hy | hy | hy
    · rcases hz with hz | hz | hz
      · exfalso; omega
      · exfalso; omega
      · subst hx hy hz; exact in_s1 h hi
    · exfalso; omega
    · rcases hz with hz | hz | hz
      · subst hx hy hz; exact in_s1 h (in_s2 h hi)
      · exfalso; omega
      · exfalso; omega
  · rcases hy with hy | hy | hy
    · rcases hz with hz | hz | hz
      · exfalso; omega
      · subst hx hy hz; exact in_s2 h (in_s1 h hi)
      · exfalso; omega
    · rcases hz with hz | hz | hz
      · subst hx hy hz; exact in_s1 h (in_s2 h (in_s1 h hi))
      · exfalso; omega
      · exfalso; omega
    · exfalso; omega
theorem cv_four (h : aciB n s = true) {t : T4} (ht : t ∈ fours n) : cvS (sgnF (lookS n s)) n (setT t) = !hasI (sgnF (lookS n s)) t := by
  have h7 := (aciB_n h).2
  obtain ⟨hp, hlt, hb⟩ := setT_bit (n := n) (by omega) ht
  obtain ⟨h1, h2, h3, h4⟩ := fours_mem (show n ≤ 7 by omega) ht
  obtain ⟨a, b, c, d⟩ := t
  dsimp only at h1 h2 h3 h4 hb
  have hin := has_in h h1 h2 h3 h4
  have hb : ∀ x, Bt (setT (a, b, c, d)) x ↔ x = a ∨ x = b ∨ x = c ∨ x = d := hb
  have tri : ∀ j, Tri n s (Bt (setT (a, b, c, d))) j → Bt (setT (a, b, c, d)) j → hasI (sgnF (lookS n s)) (a, b, c, d) = true := fun j ⟨x, y, z, hx, hy, hz, hi⟩ hj => by
    rw [hin]
    have dd := in_dis h hi
    unfold Dis at dd
    rw [hb] at hx hy hz hj
    rcases hj with rfl | rfl | rfl | rfl
    · exact .inl (.inl (in_perm h (by omega) (by omega) (by omega) hi))
    · exact .inl (.inr (in_perm h (by omega) (by omega) (by omega) hi))
    · exact .inr (.inl (in_perm h (by omega) (by omega) (by omega) hi))
    · exact .inr (.inr (in_perm h (by omega) (by omega) (by omega) hi))
  unfold cvS
  rw [hp]
  cases hc : hasI (sgnF (lookS n s)) (a, b, c, d)
  · have he : extS (sgnF (lookS n s)) n (setT (a, b, c, d)) = setT (a, b, c, d) := set_ext (exS_lt _) hlt fun x hx => by
      rw [exS_bit]
      cases hbx : (setT (a, b, c, d)).testBit x
      · simp
      · rw [inT_no h fun ht => by rw [tri x ht hbx] at hc; cases hc]
        simp [hx]
    rw [he]
    simp
  · have hne : extS (sgnF (lookS n s)) n (setT (a, b, c, d)) ≠ setT (a, b, c, d) := fun he => by
      have hno : ∀ j, Bt (setT (a, b, c, d)) j → ¬ Tri n s (Bt (setT (a, b, c, d))) j := fun j hj ht => by
        have hj2 := hj
        unfold Bt at hj
        rw [← he, exS_bit, (inT_tri h _ j).2 ht] at hj
        simp at hj
      rcases hin.1 hc with (hi | hi) | hi | hi
      · exact hno a ((hb a).2 (by omega)) ⟨b, c, d, (hb b).2 (by omega), (hb c).2 (by omega), (hb d).2 (by omega), hi⟩
      · exact hno b ((hb b).2 (by omega)) ⟨a, c, d, (hb a).2 (by omega), (hb c).2 (by omega), (hb d).2 (by omega), hi⟩
      · exact hno c ((hb c).2 (by omega)) ⟨a, b, d, (hb a).2 (by omega), (hb b).2 (by omega), (hb d).2 (by omega), hi⟩
      · exact hno d ((hb d).2 (by omega)) ⟨a, b, c, (hb a).2 (by omega), (hb b).2 (by omega), (hb c).2 (by omega), hi⟩
    rw [beq_eq_false_iff_ne.2 hne]
    simp
/-- As many convex sets of four as fours without an inner element. -/
theorem cv_quads (h : aciB n s = true) : ((cvN (sgnF (lookS n s)) n 4 : Nat) : Int) = quadsN n s := by
  have h7 := (aciB_n h).2
  have hp : ((List.range (2 ^ n)).filter fun S => pcS S == 4).Perm ((fours n).map setT) := List.isPerm_iff.1 (fours_sets0 n (by omega))
  have e1 : cvN (sgnF (lookS n s)) n 4 = ((List.range (2 ^ n)).filter fun S => pcS S == 4).countP (cvS (sgnF (lookS n s)) n) := by
    unfold cvN
    rw [List.countP_filter]
    refine List.countP_congr fun S _ => ?_
    simp only [Bool.and_eq_true]
    exact and_comm
  rw [e1, hp.countP_eq, List.countP_map]
  unfold quadsN
  rw [if_pos h, quadsL_yes h]
  unfold quads
  rw [← List.countP_eq_length_filter]
  congr 1
  refine List.countP_congr fun t ht => ?_
  show cvS (sgnF (lookS n s)) n (setT t) = true ↔ _
  rw [cv_four h ht]
/-- The extreme elements are a convex set. -/
theorem cv_hull (h : aciB n s = true) : cvS (sgnF (lookS n s)) n (extS (sgnF (lookS n s)) n (2 ^ n - 1)) = true ∧ ((pcS (extS (sgnF (lookS n s)) n (2 ^ n - 1)) : Nat) : Int) = hszZ n s := by
  have hsz : ((pcS (extS (sgnF (lookS n s)) n (2 ^ n - 1)) : Nat) : Int) = hszZ n s := by
    unfold hszZ allS
    rw [if_pos h, Int.toNat_natCast]
    rfl
  obtain ⟨R, hR, -⟩ := hull_round h
  have h3 := round_three h hR
  rw [round_size h hR] at h3
  refine ⟨?_, hsz⟩
  unfold cvS
  rw [decide_eq_true h3]
  have he : extS (sgnF (lookS n s)) n (extS (sgnF (lookS n s)) n (2 ^ n - 1)) = extS (sgnF (lookS n s)) n (2 ^ n - 1) := set_ext (exS_lt _) (exS_lt _) fun x hx => by
    rw [exS_bit (extS (sgnF (lookS n s)) n (2 ^ n - 1)) x]
    cases hb : (extS (sgnF (lookS n s)) n (2 ^ n - 1)).testBit x
    · simp
    · have hb2 := hb
      rw [exS_bit] at hb2
      simp only [Bool.and_eq_true, Bool.not_eq_true'] at hb2
      rw [inT_no h fun ht => by
        have := (inT_tri h _ x).2 (ht.mono fun y hy => exS_sub hy)
        rw [hb2.2.2] at this; cases this]
      simp [hx]
  rw [he]; simp
end
/-- The largest number not above k that has any. -/
def lcTo (c : Nat → Nat) : Nat → Nat
  | 0 => 0
  | k + 1 => if c (k + 1) = 0 then lcTo c k else k + 1
theorem lcTo_ge {c : Nat → Nat} {k : Nat} (hk : c k ≠ 0) : ∀ m, k ≤ m → k ≤ lcTo c m
  | 0, h => by have : k = 0 := by omega
               subst this; exact Nat.zero_le _
  | m + 1, h => by
    unfold lcTo
    split
    · rename_i h0
      have hne : k ≠ m + 1 := fun e => hk (e ▸ h0)
      exact lcTo_ge hk m (by omega)
    · exact h
section
variable {n : Nat} {s : List UInt8}
theorem cvN_pos {F : Int → Int → Int → Int} {S : Nat} (hS : S < 2 ^ n) (h : cvS F n S = true) : cvN F n (pcS S) ≠ 0 := by
  unfold cvN
  intro e
  rw [List.countP_eq_zero] at e
  exact e S (List.mem_range.2 hS) (by rw [h]; simp)
/-- What LargestConvex must be at least. -/
theorem lc_facts (h : aciB n s = true) : hszZ n s ≤ (lcTo (cvN (sgnF (lookS n s)) n) n : Nat) ∧ (5 ≤ n → 4 ≤ lcTo (cvN (sgnF (lookS n s)) n) n) ∧ 3 ≤ lcTo (cvN (sgnF (lookS n s)) n) n := by
  obtain ⟨h1, h2⟩ := cv_hull h
  have hle : pcS (extS (sgnF (lookS n s)) n (2 ^ n - 1)) ≤ n := by
    rw [pcS_eq, List.countP_eq_length_filter]
    refine Nat.le_trans (nodup_sub _ (List.range n) (List.nodup_range.filter _) fun x hx => ?_) (by simp)
    exact List.mem_range.2 (bit_low (exS_lt _) (List.mem_filter.1 hx).2)
  have hge := lcTo_ge (cvN_pos (exS_lt _) h1) n hle
  have h3 : 3 ≤ pcS (extS (sgnF (lookS n s)) n (2 ^ n - 1)) := by
    unfold cvS at h1
    simp only [Bool.and_eq_true, decide_eq_true_eq] at h1
    exact h1.1
  refine ⟨by omega, fun h5 => ?_, by omega⟩
  refine lcTo_ge (fun e => ?_) n (by omega)
  have hq := cv_quads h
  have hf := quads_five h (by omega)
  unfold quadsN at hq
  rw [if_pos h, e] at hq
  exact hf (List.eq_nil_of_length_eq_zero (by omega))
end
end Go.Proofs.YtpjjohbahhaeoaaGreatDoor.Sg
