/- Several texts in one: HuHull, HuCycle, HuList, HuSum, HuFilt. -/
import Derived.Test.YtinlnafkmoabbaaGreatDoorMgH
import Derived.Test.YtinlnafkmoabbaaGreatDoorMgO
import Derived.Test.YtinlnafkmoabbaaGreatDoorTakeH
/- Hulls, as spec tells them: HullOf. -/
namespace Go.Proofs.YtinlnafkmoabbaaGreatDoor.Sg
open Go.RowKit Pt NewI NewII
/-- The first element of a set from k on. -/
def lowB (x : Nat) : Nat → Nat → Nat
  | 0, k => k
  | f + 1, k => if x.testBit k = true then k else lowB x f (k + 1)
def firstS (x : Nat) : Nat := lowB x 7 0
/-- The hull from an element on, f elements at most. -/
def hullGo (nx : Nat → Int) (first : Nat) : Nat → Nat → List Int
  | 0, _ => []
  | f + 1, a => (a : Int) :: (if nx a = (first : Int) ∨ nx a < 0 then [] else hullGo nx first f (nx a).toNat)
theorem hullGo_stop {nx : Nat → Int} {first f a : Nat} (h : nx a = (first : Int) ∨ nx a < 0) : hullGo nx first (f + 1) a = [(a : Int)] := by
  show _ :: (if _ then _ else _) = _
  rw [if_pos h]
theorem hullGo_on {nx : Nat → Int} {first f a b : Nat} (h : ¬ (nx a = (first : Int) ∨ nx a < 0)) (hb : nx a = (b : Int)) : hullGo nx first (f + 1) a = (a : Int) :: hullGo nx first f b := by
  show _ :: (if _ then _ else _) = _
  rw [if_neg h, hb, Int.toNat_natCast]
end Go.Proofs.YtinlnafkmoabbaaGreatDoor.Sg
/- Hulls on plain functions: HullOf's list is the extreme elements, each once, each with all others to the left of it and the next one. -/
namespace Go.Proofs.YtinlnafkmoabbaaGreatDoor.Sg
/-- A finite order has a last element. -/
theorem exists_last (r : Nat → Nat → Prop) : ∀ L : List Nat, L ≠ [] → (∀ a b, a ∈ L → b ∈ L → a ≠ b → r a b ∨ r b a) → (∀ a b c, a ∈ L → b ∈ L → c ∈ L → a ≠ b → b ≠ c → a ≠ c → r a b → r b c → r a c) → ∃ q ∈ L, ∀ x ∈ L, x ≠ q → r x q
  | [], h, _, _ => absurd rfl h
  | [y], _, _, _ => ⟨y, List.mem_cons_self, fun x hx hne => absurd (List.mem_singleton.1 hx) hne⟩
  | y :: z :: L, _, tot, tr => by
    obtain ⟨q, hq, hall⟩ := exists_last r (z :: L) (by simp) (fun a b ha hb => tot a b (List.mem_cons_of_mem _ ha) (List.mem_cons_of_mem _ hb)) (fun a b c ha hb hc => tr a b c (List.mem_cons_of_mem _ ha) (List.mem_cons_of_mem _ hb) (List.mem_cons_of_mem _ hc))
    have hqm := List.mem_cons_of_mem y hq
    by_cases e : y = q
    · subst e
      refine ⟨y, List.mem_cons_self, fun x hx hne => ?_⟩
      rcases List.mem_cons.1 hx with h | h
      · exact absurd h hne
      · exact hall x h hne
    · rcases tot y q List.mem_cons_self hqm e with h | h
      · refine ⟨q, hqm, fun x hx hne => ?_⟩
        rcases List.mem_cons.1 hx with h1 | h1
        · subst h1; exact h
        · exact hall x h1 hne
      · refine ⟨y, List.mem_cons_self, fun x hx hne => ?_⟩
        rcases List.mem_cons.1 hx with h1 | h1
        · exact absurd h1 hne
        · by_cases e2 : x = q
          · subst e2; exact h
          · exact tr x q y hx hqm List.mem_cons_self e2 (fun e3 => e e3.symm) hne (hall x h1 e2) h
/-- Different numbers below n are n at most. -/
theorem nodup_le : ∀ (n : Nat) (L : List Nat), L.Nodup → (∀ x ∈ L, x < n) → L.length ≤ n
  | 0, L, _, h => by
    cases L with
    | nil => exact Nat.le_refl _
    | cons a l => exact absurd (h a List.mem_cons_self) (by omega)
  | n + 1, L, hn, h => by
    have ih := nodup_le n (L.erase n) (hn.erase n) (fun x hx => by
      have h1 := (List.Nodup.mem_erase_iff hn).1 hx
      have := h x h1.2
      omega)
    rw [List.length_erase] at ih
    split at ih <;> omega
/-- An extreme element. -/
def Ext (n : Nat) (s : List UInt8) (p : Nat) : Prop := p < n ∧ ∀ a b c, a < n → b < n → c < n → ¬ In n s p a b c
/-- All others are to the left of p and q. -/
def Nxt (n : Nat) (s : List UInt8) (p q : Nat) : Prop := q < n ∧ q ≠ p ∧ ∀ x, x < n → x ≠ p → x ≠ q → sgnF (lookS n s) p q x = 1
section
variable {n : Nat} {s : List UInt8}
theorem ext_trans (h : aciB n s = true) {p a b c : Nat} (hp : Ext n s p) (hd : Dis n p a b c) (h1 : sgnF (lookS n s) p a b = 1) (h2 : sgnF (lookS n s) p b c = 1) : sgnF (lookS n s) p a c = 1 := by
  have har := matB_ar (aciB_mat h)
  have hd0 := hd
  unfold Dis at hd0
  rcases sgn_one har (x := p) (y := a) (z := c) (by omega) (by omega) (by omega) (by omega) (by omega) (by omega) with e | e
  · exact e
  · exact absurd ((in_cyc h hd).2 ⟨by rw [h1, h2], by rw [h1, e]; rfl⟩) (hp.2 a b c (by omega) (by omega) (by omega))
theorem one_or (h : aciB n s = true) {p a b : Nat} (hp : p < n) (ha : a < n) (hb : b < n) (h1 : p ≠ a) (h2 : p ≠ b) (h3 : a ≠ b) : sgnF (lookS n s) p a b = 1 ∨ sgnF (lookS n s) p b a = 1 := by
  have har := matB_ar (aciB_mat h)
  have h4 := sgnF_s2 (lookS n s) (a := p) (b := a) (c := b) (by omega) (by omega) (by omega)
  rcases sgn_one har (x := p) (y := a) (z := b) hp ha hb h1 h3 h2 with e | e
  · exact .inl e
  · exact .inr (by rw [h4, e]; rfl)
theorem first_of (h : aciB n s = true) {p : Nat} (hp : Ext n s p) (L : List Nat) (hL : L ≠ []) (hm : ∀ x ∈ L, x < n ∧ x ≠ p) : ∃ q ∈ L, ∀ x ∈ L, x ≠ q → sgnF (lookS n s) p q x = 1 :=
  exists_last (fun a b => sgnF (lookS n s) p b a = 1) L hL (fun a b ha hb hab => (one_or h hp.1 (hm a ha).1 (hm b hb).1 (fun e => (hm a ha).2 e.symm) (fun e => (hm b hb).2 e.symm) hab).symm)
    (fun a b c ha hb hc h1 h2 h3 k1 k2 => ext_trans h hp ⟨hp.1, (hm c hc).1, (hm b hb).1, (hm a ha).1, fun e => (hm c hc).2 e.symm, fun e => (hm b hb).2 e.symm, fun e => (hm a ha).2 e.symm, fun e => h2 e.symm, fun e => h3 e.symm, fun e => h1 e.symm⟩ k2 k1)
/-- Each extreme element has a next one. -/
theorem nxt_some (h : aciB n s = true) {p : Nat} (hp : Ext n s p) : ∃ q, Nxt n s p q := by
  have h3 := (aciB_n h).1
  have hpn := hp.1
  obtain ⟨q, hq, hall⟩ := first_of h hp ((List.range n).filter fun x => decide (x ≠ p)) (fun e => by
    have : (if p = 0 then 1 else 0) ∈ (List.range n).filter fun x => decide (x ≠ p) := List.mem_filter.2 ⟨List.mem_range.2 (by split <;> omega), by simp; split <;> omega⟩
    rw [e] at this; exact absurd this (by simp)) (fun x hx => by
    obtain ⟨m1, m2⟩ := List.mem_filter.1 hx
    exact ⟨List.mem_range.1 m1, by simpa using m2⟩)
  obtain ⟨m1, m2⟩ := List.mem_filter.1 hq
  exact ⟨q, List.mem_range.1 m1, by simpa using m2, fun x hx h1 h2 => hall x (List.mem_filter.2 ⟨List.mem_range.2 hx, by simpa using h1⟩) h2⟩
theorem turn_bools : ∀ ab bc ac : Bool, brkV (sg1 ab) (sg1 true) (sg1 true) (sg1 bc) (sg1 ac) (sg1 true) = false → ¬ (ab = bc ∧ ab = !ac) := by decide
/-- The next one is extreme. -/
theorem nxt_ext (h : aciB n s = true) {p q : Nat} (hp : p < n) (hq : Nxt n s p q) : Ext n s q := by
  obtain ⟨hqn, hqp, hall⟩ := hq
  have har := matB_ar (aciB_mat h)
  have hl : ∀ x, x < n → x ≠ p → x ≠ q → sgnF (lookS n s) q x p = 1 := fun x hx h1 h2 => by
    rw [← rot (lookS n s) (a := (q : Int)) (b := x) (c := p) (by omega) (by omega) (by omega)]
    exact hall x hx h1 h2
  refine ⟨hqn, fun a b c ha hb hc hi => ?_⟩
  have hd := in_dis h hi
  have hcy := (in_cyc h hd).1 hi
  unfold Dis at hd
  unfold Cyc at hcy
  by_cases ea : a = p
  · subst ea
    have h1 := hl b (by omega) (by omega) (by omega)
    have h2 := hl c (by omega) (by omega) (by omega)
    have s1 := sgnF_s2 (lookS n s) (a := q) (b := a) (c := b) (by omega) (by omega) (by omega)
    have s2 := sgnF_s2 (lookS n s) (a := q) (b := a) (c := c) (by omega) (by omega) (by omega)
    omega
  · by_cases eb : b = p
    · subst eb
      have h1 := hl a (by omega) (by omega) (by omega)
      have h2 := hl c (by omega) (by omega) (by omega)
      have s2 := sgnF_s2 (lookS n s) (a := q) (b := b) (c := c) (by omega) (by omega) (by omega)
      omega
    · by_cases ec : c = p
      · subst ec
        have h1 := hl a (by omega) (by omega) (by omega)
        have h2 := hl b (by omega) (by omega) (by omega)
        omega
      · have h1 : sgnF (lookS n s) q a p = sg1 true := hl a (by omega) (by omega) (by omega)
        have h2 : sgnF (lookS n s) q b p = sg1 true := hl b (by omega) (by omega) (by omega)
        have h3 : sgnF (lookS n s) q c p = sg1 true := hl c (by omega) (by omega) (by omega)
        obtain ⟨ab, e1⟩ := one har hqn ha hb (by omega) (by omega) (by omega)
        obtain ⟨bc, e2⟩ := one har hqn hb hc (by omega) (by omega) (by omega)
        obtain ⟨ac, e3⟩ := one har hqn ha hc (by omega) (by omega) (by omega)
        have g := brk_any h (a := q) (b := a) (c := b) (d := c) (e := p) (by unfold Dif5; omega)
        rw [brk_v e1 h3 h1 e2 e3 h2] at g
        rw [e1, e2, e3, sg1_neg, sg1_inj, sg1_inj] at hcy
        exact turn_bools ab bc ac g hcy
theorem nxt_inj (_h : aciB n s = true) {p p' q : Nat} (hp : p < n) (hp' : p' < n) (h1 : Nxt n s p q) (h2 : Nxt n s p' q) : p = p' := by
  rcases Nat.decEq p p' with hne | he
  · exfalso
    have b1 := h1.2.1
    have b2 := h2.2.1
    have a1 := h1.2.2 p' hp' (fun e => hne e.symm) (fun e => b2 e.symm)
    have a2 := h2.2.2 p hp hne (fun e => b1 e.symm)
    have r1 := rot (lookS n s) (a := (p : Int)) (b := q) (c := p') (by omega) (by omega) (by omega)
    have s1 := sgnF_s2 (lookS n s) (a := p') (b := p) (c := q) (by omega) (by omega) (by omega)
    omega
  · exact he
end
/-- The numbers of a round: each is the next one of one of them, or the first. -/
structure Way (nx : Nat → Nat → Prop) (E : Nat → Prop) (first a : Nat) (V : List Nat) : Prop where
  nodup : (V ++ [a]).Nodup
  ext : ∀ v ∈ V ++ [a], E v
  head : (V ++ [a]).head? = some first
  pred : ∀ v ∈ V, v = first ∨ ∃ u ∈ V, nx u v
  succ : ∀ v ∈ V, ∃ u ∈ V ++ [a], nx v u
  link : V = [] ∨ ∃ u ∈ V, nx u a
/-- A list that goes round. -/
structure Round (nx : Nat → Nat → Prop) (E : Nat → Prop) (first : Nat) (R : List Nat) : Prop where
  nodup : R.Nodup
  ext : ∀ v ∈ R, E v
  head : R.head? = some first
  succ : ∀ v ∈ R, ∃ u ∈ R, nx v u
theorem go_round {nx : Nat → Nat → Prop} {E : Nat → Prop} {nv : Nat → Int} {first n : Nat} (hE : ∀ v, E v → v < n) (hnx : ∀ v, E v → ∃ u : Nat, nv v = (u : Int) ∧ nx v u ∧ E u ∧ u ≠ v) (hinj : ∀ v v' u, E v → E v' → nx v u → nx v' u → v = v') :
    ∀ (f a : Nat) (V : List Nat), V.length + f = n → Way nx E first a V → ∃ R, Round nx E first R ∧ V.map (fun (x : Nat) => (x : Int)) ++ hullGo nv first f a = R.map (fun (x : Nat) => (x : Int))
  | 0, a, V, hf, hw => by
    have := nodup_le n (V ++ [a]) hw.nodup (fun x hx => hE x (hw.ext x hx))
    simp at this
    omega
  | f + 1, a, V, hf, hw => by
    have hEa := hw.ext a (by simp)
    obtain ⟨u, hu, hau, hEu, hne⟩ := hnx a hEa
    by_cases hc : u = first
    · refine ⟨V ++ [a], ⟨hw.nodup, hw.ext, hw.head, fun v hv => ?_⟩, ?_⟩
      · rcases List.mem_append.1 hv with h | h
        · exact hw.succ v h
        · obtain rfl := List.mem_singleton.1 h
          refine ⟨u, ?_, hau⟩
          rw [hc]
          exact List.mem_of_mem_head? hw.head
      · rw [hullGo_stop (by rw [hu, hc]; exact .inl rfl)]
        simp
    · have hst : ¬ (nv a = (first : Int) ∨ nv a < 0) := by rw [hu]; omega
      have hmem : u ∉ V ++ [a] := fun hm => by
        rcases List.mem_append.1 hm with h | h
        · rcases hw.pred u h with e | ⟨v, hv, hvu⟩
          · exact hc e
          · have := hinj a v u hEa (hw.ext v (by simp [hv])) hau hvu
            subst this
            have hnd := hw.nodup
            rw [List.nodup_append] at hnd
            exact hnd.2.2 a hv a (by simp) rfl
        · exact hne (List.mem_singleton.1 h)
      obtain ⟨R, hR, hmap⟩ := go_round hE hnx hinj f u (V ++ [a]) (by simp; omega) ⟨by
          rw [List.nodup_append]
          exact ⟨hw.nodup, by simp, fun x hx y hy e => by
            rw [List.mem_singleton.1 hy] at e
            exact hmem (e ▸ hx)⟩, fun v hv => by
          rcases List.mem_append.1 hv with h | h
          · exact hw.ext v h
          · rw [List.mem_singleton.1 h]; exact hEu, by
          have := hw.head
          cases V with
          | nil => simpa using this
          | cons y ys => simpa using this, fun v hv => by
          rcases List.mem_append.1 hv with h | h
          · rcases hw.pred v h with e | ⟨t, ht, htv⟩
            · exact .inl e
            · exact .inr ⟨t, by simp [ht], htv⟩
          · rw [List.mem_singleton.1 h]
            rcases hw.link with e | ⟨t, ht, hta⟩
            · left
              have := hw.head
              rw [e] at this
              simpa using this
            · exact .inr ⟨t, by simp [ht], hta⟩, fun v hv => by
          rcases List.mem_append.1 hv with h | h
          · obtain ⟨t, ht, hvt⟩ := hw.succ v h
            exact ⟨t, List.mem_append_left _ ht, hvt⟩
          · rw [List.mem_singleton.1 h]
            exact ⟨u, by simp, hau⟩, .inr ⟨a, by simp, hau⟩⟩
      refine ⟨R, hR, ?_⟩
      rw [hullGo_on hst hu, ← hmap]
      simp
end Go.Proofs.YtinlnafkmoabbaaGreatDoor.Sg
/- Hulls on plain functions: what HullOf, HullSize, IsExtreme tell of one another. -/
namespace Go.Proofs.YtinlnafkmoabbaaGreatDoor.Sg
section
variable {n : Nat} {s : List UInt8}
theorem threes_in (h7 : n ≤ 7) {i j k : Nat} (h1 : i < j) (h2 : j < k) (h3 : k < n) : (i, j, k) ∈ threes n := by
  have := upto_step h7 h1 h2 h3
  have hm : (i, j, k) ∈ upto n i j (k + 1) := by rw [this]; simp
  unfold upto at hm
  exact (List.mem_filter.1 hm).1
/-- Inside no triangle of a set: as l6In tells it. -/
theorem inT_iff (h : aciB n s = true) (set p : Nat) : inT (sgnF (lookS n s)) n set p = true ↔ ∃ a b c, set.testBit a = true ∧ set.testBit b = true ∧ set.testBit c = true ∧ In n s p a b c := by
  have h7 := (aciB_n h).2
  unfold inT
  rw [List.any_eq_true]
  constructor
  · rintro ⟨t, -, hh⟩
    unfold hitT at hh
    simp only [Bool.and_eq_true] at hh
    exact ⟨t.1, t.2.1, t.2.2, hh.1, hh.2.1, hh.2.2.1, hh.2.2.2⟩
  · rintro ⟨a, b, c, ha, hb, hc, hi⟩
    have hd := in_dis h hi
    unfold Dis at hd
    have mk : ∀ x y z, set.testBit x = true → set.testBit y = true → set.testBit z = true → x < y → y < z → z < n → In n s p x y z → ∃ t, t ∈ threes n ∧ hitT (sgnF (lookS n s)) set p t = true := fun x y z hx hy hz k1 k2 k3 hi => ⟨(x, y, z), threes_in (by omega) k1 k2 k3, by unfold hitT; rw [hx, hy, hz]; exact hi⟩
    rcases (by omega : (a < b ∧ b < c) ∨ (a < c ∧ c < b) ∨ (b < a ∧ a < c) ∨ (b < c ∧ c < a) ∨ (c < a ∧ a < b) ∨ (c < b ∧ b < a)) with ⟨k1, k2⟩ | ⟨k1, k2⟩ | ⟨k1, k2⟩ | ⟨k1, k2⟩ | ⟨k1, k2⟩ | ⟨k1, k2⟩
    · exact mk a b c ha hb hc k1 k2 (by omega) hi
    · exact mk a c b ha hc hb k1 k2 (by omega) (in_s2 h hi)
    · exact mk b a c hb ha hc k1 k2 (by omega) (in_s1 h hi)
    · exact mk b c a hb hc ha k1 k2 (by omega) (in_s2 h (in_s1 h hi))
    · exact mk c a b hc ha hb k1 k2 (by omega) (in_s1 h (in_s2 h hi))
    · exact mk c b a hc hb ha k1 k2 (by omega) (in_s1 h (in_s2 h (in_s1 h hi)))
theorem all_bit (p : Nat) : (2 ^ n - 1).testBit p = decide (p < n) := Nat.testBit_two_pow_sub_one n p
theorem inT_all (h : aciB n s = true) {p : Nat} (hp : p < n) : inT (sgnF (lookS n s)) n (2 ^ n - 1) p = false ↔ Ext n s p := by
  constructor
  · intro hf
    refine ⟨hp, fun a b c ha hb hc hi => ?_⟩
    have := (inT_iff h (2 ^ n - 1) p).2 ⟨a, b, c, by rw [all_bit]; simpa using ha, by rw [all_bit]; simpa using hb, by rw [all_bit]; simpa using hc, hi⟩
    rw [hf] at this; cases this
  · intro he
    cases ht : inT (sgnF (lookS n s)) n (2 ^ n - 1) p
    · rfl
    · obtain ⟨a, b, c, -, -, -, hi⟩ := (inT_iff h (2 ^ n - 1) p).1 ht
      have hd := in_dis h hi
      unfold Dis at hd
      exact absurd hi (he.2 a b c (by omega) (by omega) (by omega))
theorem ext_iff (h : aciB n s = true) (p : Nat) : (extS (sgnF (lookS n s)) n (2 ^ n - 1)).testBit p = true ↔ Ext n s p := by
  unfold extS
  rw [extTo_bit, all_bit]
  constructor
  · intro hb
    simp only [Bool.and_eq_true, decide_eq_true_eq, Bool.not_eq_true'] at hb
    exact (inT_all h hb.1).1 hb.2.2
  · intro he
    have := (inT_all h he.1).2 he
    simp [he.1, this]
end
end Go.Proofs.YtinlnafkmoabbaaGreatDoor.Sg
/- Hulls on plain functions: the numbers that FnHulls compares. -/
namespace Go.Proofs.YtinlnafkmoabbaaGreatDoor.Sg
/-- Different members of a list are as many as it has at most. -/
theorem nodup_sub : ∀ L R : List Nat, L.Nodup → (∀ x ∈ L, x ∈ R) → L.length ≤ R.length
  | [], _, _, _ => Nat.zero_le _
  | a :: L, R, hn, h => by
    obtain ⟨h1, h2⟩ := List.nodup_cons.1 hn
    have ha := h a List.mem_cons_self
    have ih := nodup_sub L (R.erase a) h2 (fun x hx => (List.mem_erase_of_ne (fun (e : x = a) => h1 (e ▸ hx))).2 (h x (List.mem_cons_of_mem _ hx)))
    rw [List.length_erase, if_pos ha] at ih
    have := List.length_pos_of_mem ha
    simp only [List.length_cons]
    omega
/-- How many elements a set has. -/
def pcS (x : Nat) : Nat := (setsTo x.testBit 7).length
section
variable {n : Nat} {s : List UInt8}
theorem pcS_all : ∀ n, n < 8 → pcS (2 ^ n - 1) = n := by decide +kernel
end
end Go.Proofs.YtinlnafkmoabbaaGreatDoor.Sg
/- Hulls on plain functions: what impl's lists of elements tell. -/
namespace Go.Proofs.YtinlnafkmoabbaaGreatDoor.Sg
def zl (L : List Nat) : List Int := L.map fun (x : Nat) => (x : Int)
theorem zl_length (L : List Nat) : (zl L).length = L.length := List.length_map _
theorem zl_nil {L : List Nat} (h : zl L = []) : L = [] := by cases L with
  | nil => rfl
  | cons a l => cases h
/-- The elements of a set, ascending. -/
def eltN (set : Nat) : List Nat := (List.range 7).filter set.testBit
theorem setsTo_elt (set : Nat) : setsTo set.testBit 7 = zl (eltN set) := rfl
theorem elt_len (set : Nat) : (eltN set).length ≤ 7 := by
  have := List.length_filter_le set.testBit (List.range 7)
  rw [List.length_range] at this
  exact this
section
variable {n : Nat} {s : List UInt8}
end
end Go.Proofs.YtinlnafkmoabbaaGreatDoor.Sg
