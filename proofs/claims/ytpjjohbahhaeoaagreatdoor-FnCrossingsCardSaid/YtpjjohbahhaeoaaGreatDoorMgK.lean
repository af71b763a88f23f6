/- Several texts in one: HuHull, HuCycle, HuList, HuConv, HuSum, HuFilt, HuSorted. -/
import Derived.Test.YtpjjohbahhaeoaaGreatDoorMgH
import Derived.Test.YtpjjohbahhaeoaaGreatDoorTakeH
import Derived.Test.YtpjjohbahhaeoaaGreatDoorHuSortMath
/- Hulls, as spec tells them: HullOf. -/
namespace Go.Proofs.YtpjjohbahhaeoaaGreatDoor.Sg
open Go.RowKit Pt NewI NewII
/-- The first element of a set from k on. -/
def lowB (x : Nat) : Nat → Nat → Nat
  | 0, k => k
  | f + 1, k => if x.testBit k = true then k else lowB x f (k + 1)
def firstS (x : Nat) : Nat := lowB x 7 0
theorem lowB_hit {x k : Nat} (h : x.testBit k = true) : ∀ f, lowB x f k = k
  | 0 => rfl
  | f + 1 => by unfold lowB; rw [if_pos h]
theorem lowB_miss {x f k : Nat} (h : x.testBit k = false) : lowB x (f + 1) k = lowB x f (k + 1) := by
  show (if x.testBit k = true then k else lowB x f (k + 1)) = _
  rw [h]; rfl
/-- The next extreme element: the last one among the first k such that all others are to the left. -/
def nxtTo (F : Int → Int → Int → Int) (n hull all a : Nat) : Nat → Int
  | 0 => -1
  | k + 1 => if (!(k == a) && (hull.testBit k && leftB F n all a k)) = true then (k : Int) else nxtTo F n hull all a k
theorem nxtTo_hit {F : Int → Int → Int → Int} {n hull all a k : Nat} (h : (!(k == a) && (hull.testBit k && leftB F n all a k)) = true) : nxtTo F n hull all a (k + 1) = k := by
  show (if _ then _ else _) = _
  rw [if_pos h]
theorem nxtTo_miss {F : Int → Int → Int → Int} {n hull all a k : Nat} (h : (!(k == a) && (hull.testBit k && leftB F n all a k)) = false) : nxtTo F n hull all a (k + 1) = nxtTo F n hull all a k := by
  show (if _ then _ else _) = _
  rw [h]; rfl
theorem nxtTo_bd (F : Int → Int → Int → Int) (n hull all a : Nat) : ∀ k, -1 ≤ nxtTo F n hull all a k ∧ nxtTo F n hull all a k < k
  | 0 => by unfold nxtTo; omega
  | k + 1 => by
    have := nxtTo_bd F n hull all a k
    unfold nxtTo
    split <;> omega
/-- The hull from an element on, f elements at most. -/
def hullGo (nx : Nat → Int) (first : Nat) : Nat → Nat → List Int
  | 0, _ => []
  | f + 1, a => (a : Int) :: (if nx a = (first : Int) ∨ nx a < 0 then [] else hullGo nx first f (nx a).toNat)
theorem hullGo_stop {nx : Nat → Int} {first f a : Nat} (h : nx a = (first : Int) ∨ nx a < 0) : hullGo nx first (f + 1) a = [(a : Int)] := by
  show _ :: (if _ then _ else _) = _
  rw [if_pos h]
theorem hullGo_on {nx : Nat → Int} {first f a b : Nat} (h : ¬ (nx a = (first : Int) ∨ nx a < 0)) (hb : nx a = (b : Int)) : hullGo nx first (f + 1) a = (a : Int) :: hullGo nx first f b := by
  show _ :: (if _ then _ else _) = _
  rw [if_neg h, hb, Int.toNat_natCast]
/-- What HullOf answers. -/
def hullZ (n : Int) (s : List UInt8) : List Int := if aciB n s = true then hullGo (fun a => nxtTo (sgnF (lookS n s)) n.toNat (extS (sgnF (lookS n s)) n.toNat (allS n)) (allS n) a n.toNat) (firstS (extS (sgnF (lookS n s)) n.toNat (allS n))) n.toNat (firstS (extS (sgnF (lookS n s)) n.toNat (allS n))) else []
end Go.Proofs.YtpjjohbahhaeoaaGreatDoor.Sg
/- Hulls on plain functions: HullOf's list is the extreme elements, each once, each with all others to the left of it and the next one. -/
namespace Go.Proofs.YtpjjohbahhaeoaaGreatDoor.Sg
/-- A finite order has a last element. -/
theorem exists_last (r : Nat → Nat → Prop) : ∀ L : List Nat, L ≠ [] → (∀ a b, a ∈ L → b ∈ L → a ≠ b → r a b ∨ r b a) → (∀ a b c, a ∈ L → b ∈ L → c ∈ L → a ≠ b → b ≠ c → a ≠ c → r a b → r b c → r a c) → ∃ q ∈ L, ∀ x ∈ L, x ≠ q → r x q
  | [], h, _, _ => absurd rfl h
  | [y], _, _, _ => ⟨y, List.mem_cons_self, fun x hx hne => absurd (List.mem_singleton.1 hx) hne⟩
  | y :: z :: L, _, tot, tr => by
    obtain ⟨q, hq, hall⟩ := exists_last r (z :: L) (by simp) (fun a b ha hb => tot a b (List.mem_cons_of_mem _ ha) (List.mem_cons_of_mem _ hb)) (fun a b c ha hb hc => tr a b c (List.mem_cons_of_mem _ ha) (List.mem_cons_of_mem _ hb) (List.mem_cons_of_mem _ hc))
    have hqm := List.mem_cons_of_mem y hq
    by_cases e : y = q
    · subst e
      refine ⟨y, List.mem_cons_self, fun x hx hne => ?_⟩
      rcases List.mem_cons.1 hx with h | h
      · exact absurd h hne
      · exact hall x h hne
    · rcases tot y q List.mem_cons_self hqm e with h | h
      · refine ⟨q, hqm, fun x hx hne => ?_⟩
        rcases List.mem_cons.1 hx with h1 | h1
        · subst h1; exact h
        · exact hall x h1 hne
      · refine ⟨y, List.mem_cons_self, fun x hx hne => ?_⟩
        rcases List.mem_cons.1 hx with h1 | h1
        · exact absurd h1 hne
        · by_cases e2 : x = q
          · subst e2; exact h
          · exact tr x q y hx hqm List.mem_cons_self e2 (fun e3 => e e3.symm) hne (hall x h1 e2) h
/-- Different numbers below n are n at most. -/
theorem nodup_le : ∀ (n : Nat) (L : List Nat), L.Nodup → (∀ x ∈ L, x < n) → L.length ≤ n
  | 0, L, _, h => by
    cases L with
    | nil => exact Nat.le_refl _
    | cons a l => exact absurd (h a List.mem_cons_self) (by omega)
  | n + 1, L, hn, h => by
    have ih := nodup_le n (L.erase n) (hn.erase n) (fun x hx => by
      have h1 := (List.Nodup.mem_erase_iff hn).1 hx
      have := h x h1.2
      omega)
    rw [List.length_erase] at ih
    split at ih <;> omega
/-- An extreme element. -/
def Ext (n : Nat) (s : List UInt8) (p : Nat) : Prop := p < n ∧ ∀ a b c, a < n → b < n → c < n → ¬ In n s p a b c
/-- All others are to the left of p and q. -/
def Nxt (n : Nat) (s : List UInt8) (p q : Nat) : Prop := q < n ∧ q ≠ p ∧ ∀ x, x < n → x ≠ p → x ≠ q → sgnF (lookS n s) p q x = 1
section
variable {n : Nat} {s : List UInt8}
theorem ext_trans (h : aciB n s = true) {p a b c : Nat} (hp : Ext n s p) (hd : Dis n p a b c) (h1 : sgnF (lookS n s) p a b = 1) (h2 : sgnF (lookS n s) p b c = 1) : sgnF (lookS n s) p a c = 1 := by
  have har := matB_ar (aciB_mat h)
  have hd0 := hd
  unfold Dis at hd0
  rcases sgn_one har (x := p) (y := a) (z := c) (by omega) (by omega) (by omega) (by omega) (by omega) (by omega) with e | e
  · exact e
  · exact absurd ((in_cyc h hd).2 ⟨by rw [h1, h2], by rw [h1, e]; rfl⟩) (hp.2 a b c (by omega) (by omega) (by omega))
theorem one_or (h : aciB n s = true) {p a b : Nat} (hp : p < n) (ha : a < n) (hb : b < n) (h1 : p ≠ a) (h2 : p ≠ b) (h3 : a ≠ b) : sgnF (lookS n s) p a b = 1 ∨ sgnF (lookS n s) p b a = 1 := by
  have har := matB_ar (aciB_mat h)
  have h4 := sgnF_s2 (lookS n s) (a := p) (b := a) (c := b) (by omega) (by omega) (by omega)
  rcases sgn_one har (x := p) (y := a) (z := b) hp ha hb h1 h3 h2 with e | e
  · exact .inl e
  · exact .inr (by rw [h4, e]; rfl)
/-- Around an extreme element the others have a last one, in the order of these. -/
theorem last_of (h : aciB n s = true) {p : Nat} (hp : Ext n s p) (L : List Nat) (hL : L ≠ []) (hm : ∀ x ∈ L, x < n ∧ x ≠ p) : ∃ q ∈ L, ∀ x ∈ L, x ≠ q → sgnF (lookS n s) p x q = 1 :=
  exists_last (fun a b => sgnF (lookS n s) p a b = 1) L hL (fun a b ha hb hab => one_or h hp.1 (hm a ha).1 (hm b hb).1 (fun e => (hm a ha).2 e.symm) (fun e => (hm b hb).2 e.symm) hab)
    (fun a b c ha hb hc h1 h2 h3 k1 k2 => ext_trans h hp ⟨hp.1, (hm a ha).1, (hm b hb).1, (hm c hc).1, fun e => (hm a ha).2 e.symm, fun e => (hm b hb).2 e.symm, fun e => (hm c hc).2 e.symm, h1, h3, h2⟩ k1 k2)
theorem first_of (h : aciB n s = true) {p : Nat} (hp : Ext n s p) (L : List Nat) (hL : L ≠ []) (hm : ∀ x ∈ L, x < n ∧ x ≠ p) : ∃ q ∈ L, ∀ x ∈ L, x ≠ q → sgnF (lookS n s) p q x = 1 :=
  exists_last (fun a b => sgnF (lookS n s) p b a = 1) L hL (fun a b ha hb hab => (one_or h hp.1 (hm a ha).1 (hm b hb).1 (fun e => (hm a ha).2 e.symm) (fun e => (hm b hb).2 e.symm) hab).symm)
    (fun a b c ha hb hc h1 h2 h3 k1 k2 => ext_trans h hp ⟨hp.1, (hm c hc).1, (hm b hb).1, (hm a ha).1, fun e => (hm c hc).2 e.symm, fun e => (hm b hb).2 e.symm, fun e => (hm a ha).2 e.symm, fun e => h2 e.symm, fun e => h3 e.symm, fun e => h1 e.symm⟩ k2 k1)
/-- Each extreme element has a next one. -/
theorem nxt_some (h : aciB n s = true) {p : Nat} (hp : Ext n s p) : ∃ q, Nxt n s p q := by
  have h3 := (aciB_n h).1
  have hpn := hp.1
  obtain ⟨q, hq, hall⟩ := first_of h hp ((List.range n).filter fun x => decide (x ≠ p)) (fun e => by
    have : (if p = 0 then 1 else 0) ∈ (List.range n).filter fun x => decide (x ≠ p) := List.mem_filter.2 ⟨List.mem_range.2 (by split <;> omega), by simp; split <;> omega⟩
    rw [e] at this; exact absurd this (by simp)) (fun x hx => by
    obtain ⟨m1, m2⟩ := List.mem_filter.1 hx
    exact ⟨List.mem_range.1 m1, by simpa using m2⟩)
  obtain ⟨m1, m2⟩ := List.mem_filter.1 hq
  exact ⟨q, List.mem_range.1 m1, by simpa using m2, fun x hx h1 h2 => hall x (List.mem_filter.2 ⟨List.mem_range.2 hx, by simpa using h1⟩) h2⟩
theorem turn_bools : ∀ ab bc ac : Bool, brkV (sg1 ab) (sg1 true) (sg1 true) (sg1 bc) (sg1 ac) (sg1 true) = false → ¬ (ab = bc ∧ ab = !ac) := by decide
/-- The next one is extreme. -/
theorem nxt_ext (h : aciB n s = true) {p q : Nat} (hp : p < n) (hq : Nxt n s p q) : Ext n s q := by
  obtain ⟨hqn, hqp, hall⟩ := hq
  have har := matB_ar (aciB_mat h)
  have hl : ∀ x, x < n → x ≠ p → x ≠ q → sgnF (lookS n s) q x p = 1 := fun x hx h1 h2 => by
    rw [← rot (lookS n s) (a := (q : Int)) (b := x) (c := p) (by omega) (by omega) (by omega)]
    exact hall x hx h1 h2
  refine ⟨hqn, fun a b c ha hb hc hi => ?_⟩
  have hd := in_dis h hi
  have hcy := (in_cyc h hd).1 hi
  unfold Dis at hd
  unfold Cyc at hcy
  by_cases ea : a = p
  · subst ea
    have h1 := hl b (by omega) (by omega) (by omega)
    have h2 := hl c (by omega) (by omega) (by omega)
    have s1 := sgnF_s2 (lookS n s) (a := q) (b := a) (c := b) (by omega) (by omega) (by omega)
    have s2 := sgnF_s2 (lookS n s) (a := q) (b := a) (c := c) (by omega) (by omega) (by omega)
    omega
  · by_cases eb : b = p
    · subst eb
      have h1 := hl a (by omega) (by omega) (by omega)
      have h2 := hl c (by omega) (by omega) (by omega)
      have s2 := sgnF_s2 (lookS n s) (a := q) (b := b) (c := c) (by omega) (by omega) (by omega)
      omega
    · by_cases ec : c = p
      · subst ec
        have h1 := hl a (by omega) (by omega) (by omega)
        have h2 := hl b (by omega) (by omega) (by omega)
        omega
      · have h1 : sgnF (lookS n s) q a p = sg1 true := hl a (by omega) (by omega) (by omega)
        have h2 : sgnF (lookS n s) q b p = sg1 true := hl b (by omega) (by omega) (by omega)
        have h3 : sgnF (lookS n s) q c p = sg1 true := hl c (by omega) (by omega) (by omega)
        obtain ⟨ab, e1⟩ := one har hqn ha hb (by omega) (by omega) (by omega)
        obtain ⟨bc, e2⟩ := one har hqn hb hc (by omega) (by omega) (by omega)
        obtain ⟨ac, e3⟩ := one har hqn ha hc (by omega) (by omega) (by omega)
        have g := brk_any h (a := q) (b := a) (c := b) (d := c) (e := p) (by unfold Dif5; omega)
        rw [brk_v e1 h3 h1 e2 e3 h2] at g
        rw [e1, e2, e3, sg1_neg, sg1_inj, sg1_inj] at hcy
        exact turn_bools ab bc ac g hcy
/-- There is one next one, and it is the next one of one. -/
theorem nxt_one (_h : aciB n s = true) {p q q' : Nat} (_hp : p < n) (h1 : Nxt n s p q) (h2 : Nxt n s p q') : q = q' := by
  rcases Nat.decEq q q' with hne | he
  · exfalso
    have a1 := h1.2.2 q' h2.1 h2.2.1 (fun e => hne e.symm)
    have a2 := h2.2.2 q h1.1 h1.2.1 hne
    have b1 := h1.2.1
    have b2 := h2.2.1
    have s1 := sgnF_s2 (lookS n s) (a := p) (b := q) (c := q') (by omega) (by omega) (by omega)
    omega
  · exact he
theorem nxt_inj (_h : aciB n s = true) {p p' q : Nat} (hp : p < n) (hp' : p' < n) (h1 : Nxt n s p q) (h2 : Nxt n s p' q) : p = p' := by
  rcases Nat.decEq p p' with hne | he
  · exfalso
    have b1 := h1.2.1
    have b2 := h2.2.1
    have a1 := h1.2.2 p' hp' (fun e => hne e.symm) (fun e => b2 e.symm)
    have a2 := h2.2.2 p hp hne (fun e => b1 e.symm)
    have r1 := rot (lookS n s) (a := (p : Int)) (b := q) (c := p') (by omega) (by omega) (by omega)
    have s1 := sgnF_s2 (lookS n s) (a := p') (b := p) (c := q) (by omega) (by omega) (by omega)
    omega
  · exact he
end
/-- The numbers of a round: each is the next one of one of them, or the first. -/
structure Way (nx : Nat → Nat → Prop) (E : Nat → Prop) (first a : Nat) (V : List Nat) : Prop where
  nodup : (V ++ [a]).Nodup
  ext : ∀ v ∈ V ++ [a], E v
  head : (V ++ [a]).head? = some first
  pred : ∀ v ∈ V, v = first ∨ ∃ u ∈ V, nx u v
  succ : ∀ v ∈ V, ∃ u ∈ V ++ [a], nx v u
  link : V = [] ∨ ∃ u ∈ V, nx u a
/-- A list that goes round. -/
structure Round (nx : Nat → Nat → Prop) (E : Nat → Prop) (first : Nat) (R : List Nat) : Prop where
  nodup : R.Nodup
  ext : ∀ v ∈ R, E v
  head : R.head? = some first
  succ : ∀ v ∈ R, ∃ u ∈ R, nx v u
theorem go_round {nx : Nat → Nat → Prop} {E : Nat → Prop} {nv : Nat → Int} {first n : Nat} (hE : ∀ v, E v → v < n) (hnx : ∀ v, E v → ∃ u : Nat, nv v = (u : Int) ∧ nx v u ∧ E u ∧ u ≠ v) (hinj : ∀ v v' u, E v → E v' → nx v u → nx v' u → v = v') :
    ∀ (f a : Nat) (V : List Nat), V.length + f = n → Way nx E first a V → ∃ R, Round nx E first R ∧ V.map (fun (x : Nat) => (x : Int)) ++ hullGo nv first f a = R.map (fun (x : Nat) => (x : Int))
  | 0, a, V, hf, hw => by
    have := nodup_le n (V ++ [a]) hw.nodup (fun x hx => hE x (hw.ext x hx))
    simp at this
    omega
  | f + 1, a, V, hf, hw => by
    have hEa := hw.ext a (by simp)
    obtain ⟨u, hu, hau, hEu, hne⟩ := hnx a hEa
    by_cases hc : u = first
    · refine ⟨V ++ [a], ⟨hw.nodup, hw.ext, hw.head, fun v hv => ?_⟩, ?_⟩
      · rcases List.mem_append.1 hv with h | h
        · exact hw.succ v h
        · obtain rfl := List.mem_singleton.1 h
          refine ⟨u, ?_, hau⟩
          rw [hc]
          exact List.mem_of_mem_head? hw.head
      · rw [hullGo_stop (by rw [hu, hc]; exact .inl rfl)]
        simp
    · have hst : ¬ (nv a = (first : Int) ∨ nv a < 0) := by rw [hu]; omega
      have hmem : u ∉ V ++ [a] := fun hm => by
        rcases List.mem_append.1 hm with h | h
        · rcases hw.pred u h with e | ⟨v, hv, hvu⟩
          · exact hc e
          · have := hinj a v u hEa (hw.ext v (by simp [hv])) hau hvu
            subst this
            have hnd := hw.nodup
            rw [List.nodup_append] at hnd
            exact hnd.2.2 a hv a (by simp) rfl
        · exact hne (List.mem_singleton.1 h)
      obtain ⟨R, hR, hmap⟩ := go_round hE hnx hinj f u (V ++ [a]) (by simp; omega) ⟨by
          rw [List.nodup_append]
          exact ⟨hw.nodup, by simp, fun x hx y hy e => by
            rw [List.mem_singleton.1 hy] at e
            exact hmem (e ▸ hx)⟩, fun v hv => by
          rcases List.mem_append.1 hv with h | h
          · exact hw.ext v h
          · rw [List.mem_singleton.1 h]; exact hEu, by
          have := hw.head
          cases V with
          | nil => simpa using this
          | cons y ys => simpa using this, fun v hv => by
          rcases List.mem_append.1 hv with h | h
          · rcases hw.pred v h with e | ⟨t, ht, htv⟩
            · exact .inl e
            · exact .inr ⟨t, by simp [ht], htv⟩
          · rw [List.mem_singleton.1 h]
            rcases hw.link with e | ⟨t, ht, hta⟩
            · left
              have := hw.head
              rw [e] at this
              simpa using this
            · exact .inr ⟨t, by simp [ht], hta⟩, fun v hv => by
          rcases List.mem_append.1 hv with h | h
          · obtain ⟨t, ht, hvt⟩ := hw.succ v h
            exact ⟨t, List.mem_append_left _ ht, hvt⟩
          · rw [List.mem_singleton.1 h]
            exact ⟨u, by simp, hau⟩, .inr ⟨a, by simp, hau⟩⟩
      refine ⟨R, hR, ?_⟩
      rw [hullGo_on hst hu, ← hmap]
      simp
end Go.Proofs.YtpjjohbahhaeoaaGreatDoor.Sg
/- Hulls on plain functions: what HullOf, HullSize, IsExtreme tell of one another. -/
namespace Go.Proofs.YtpjjohbahhaeoaaGreatDoor.Sg
section
variable {n : Nat} {s : List UInt8}
theorem in_sort (h : aciB n s = true) {p a b c : Nat} (hi : In n s p a b c) : ∃ x y z, x < y ∧ y < z ∧ z < n ∧ In n s p x y z := by
  have hd := in_dis h hi
  unfold Dis at hd
  rcases (by omega : (a < b ∧ b < c) ∨ (a < c ∧ c < b) ∨ (b < a ∧ a < c) ∨ (b < c ∧ c < a) ∨ (c < a ∧ a < b) ∨ (c < b ∧ b < a)) with ⟨k1, k2⟩ | ⟨k1, k2⟩ | ⟨k1, k2⟩ | ⟨k1, k2⟩ | ⟨k1, k2⟩ | ⟨k1, k2⟩
  · exact ⟨a, b, c, k1, k2, by omega, hi⟩
  · exact ⟨a, c, b, k1, k2, by omega, in_s2 h hi⟩
  · exact ⟨b, a, c, k1, k2, by omega, in_s1 h hi⟩
  · exact ⟨b, c, a, k1, k2, by omega, in_s2 h (in_s1 h hi)⟩
  · exact ⟨c, a, b, k1, k2, by omega, in_s1 h (in_s2 h hi)⟩
  · exact ⟨c, b, a, k1, k2, by omega, in_s1 h (in_s2 h (in_s1 h hi))⟩
theorem threes_in (h7 : n ≤ 7) {i j k : Nat} (h1 : i < j) (h2 : j < k) (h3 : k < n) : (i, j, k) ∈ threes n := by
  have := upto_step h7 h1 h2 h3
  have hm : (i, j, k) ∈ upto n i j (k + 1) := by rw [this]; simp
  unfold upto at hm
  exact (List.mem_filter.1 hm).1
/-- Inside no triangle of a set: as l6In tells it. -/
theorem inT_iff (h : aciB n s = true) (set p : Nat) : inT (sgnF (lookS n s)) n set p = true ↔ ∃ a b c, set.testBit a = true ∧ set.testBit b = true ∧ set.testBit c = true ∧ In n s p a b c := by
  have h7 := (aciB_n h).2
  unfold inT
  rw [List.any_eq_true]
  constructor
  · rintro ⟨t, -, hh⟩
    unfold hitT at hh
    simp only [Bool.and_eq_true] at hh
    exact ⟨t.1, t.2.1, t.2.2, hh.1, hh.2.1, hh.2.2.1, hh.2.2.2⟩
  · rintro ⟨a, b, c, ha, hb, hc, hi⟩
    have hd := in_dis h hi
    unfold Dis at hd
    have mk : ∀ x y z, set.testBit x = true → set.testBit y = true → set.testBit z = true → x < y → y < z → z < n → In n s p x y z → ∃ t, t ∈ threes n ∧ hitT (sgnF (lookS n s)) set p t = true := fun x y z hx hy hz k1 k2 k3 hi => ⟨(x, y, z), threes_in (by omega) k1 k2 k3, by unfold hitT; rw [hx, hy, hz]; exact hi⟩
    rcases (by omega : (a < b ∧ b < c) ∨ (a < c ∧ c < b) ∨ (b < a ∧ a < c) ∨ (b < c ∧ c < a) ∨ (c < a ∧ a < b) ∨ (c < b ∧ b < a)) with ⟨k1, k2⟩ | ⟨k1, k2⟩ | ⟨k1, k2⟩ | ⟨k1, k2⟩ | ⟨k1, k2⟩ | ⟨k1, k2⟩
    · exact mk a b c ha hb hc k1 k2 (by omega) hi
    · exact mk a c b ha hc hb k1 k2 (by omega) (in_s2 h hi)
    · exact mk b a c hb ha hc k1 k2 (by omega) (in_s1 h hi)
    · exact mk b c a hb hc ha k1 k2 (by omega) (in_s2 h (in_s1 h hi))
    · exact mk c a b hc ha hb k1 k2 (by omega) (in_s1 h (in_s2 h hi))
    · exact mk c b a hc hb ha k1 k2 (by omega) (in_s1 h (in_s2 h (in_s1 h hi)))
theorem all_bit (p : Nat) : (2 ^ n - 1).testBit p = decide (p < n) := Nat.testBit_two_pow_sub_one n p
theorem inT_all (h : aciB n s = true) {p : Nat} (hp : p < n) : inT (sgnF (lookS n s)) n (2 ^ n - 1) p = false ↔ Ext n s p := by
  constructor
  · intro hf
    refine ⟨hp, fun a b c ha hb hc hi => ?_⟩
    have := (inT_iff h (2 ^ n - 1) p).2 ⟨a, b, c, by rw [all_bit]; simpa using ha, by rw [all_bit]; simpa using hb, by rw [all_bit]; simpa using hc, hi⟩
    rw [hf] at this; cases this
  · intro he
    cases ht : inT (sgnF (lookS n s)) n (2 ^ n - 1) p
    · rfl
    · obtain ⟨a, b, c, -, -, -, hi⟩ := (inT_iff h (2 ^ n - 1) p).1 ht
      have hd := in_dis h hi
      unfold Dis at hd
      exact absurd hi (he.2 a b c (by omega) (by omega) (by omega))
theorem ext_iff (h : aciB n s = true) (p : Nat) : (extS (sgnF (lookS n s)) n (2 ^ n - 1)).testBit p = true ↔ Ext n s p := by
  unfold extS
  rw [extTo_bit, all_bit]
  constructor
  · intro hb
    simp only [Bool.and_eq_true, decide_eq_true_eq, Bool.not_eq_true'] at hb
    exact (inT_all h hb.1).1 hb.2.2
  · intro he
    have := (inT_all h he.1).2 he
    simp [he.1, this]
theorem left_iff (h : aciB n s = true) {p q : Nat} (hp : p < n) (hq : q < n) (hpq : q ≠ p) : leftB (sgnF (lookS n s)) n (2 ^ n - 1) p q = true ↔ Nxt n s p q := by
  unfold leftB leftTo
  rw [List.all_eq_true]
  constructor
  · intro hall
    refine ⟨hq, hpq, fun x hx h1 h2 => ?_⟩
    have hh := hall x (List.mem_range.2 hx)
    rw [all_bit] at hh
    have o := sgn_one (matB_ar (aciB_mat h)) (x := p) (y := q) (z := x) hp hq hx (fun e => hpq e.symm) (fun e => h2 e.symm) (fun e => h1 e.symm)
    simp [h1, h2, hx] at hh
    omega
  · rintro ⟨-, -, hall⟩ x hx
    have hxn := List.mem_range.1 hx
    by_cases h1 : x = p
    · simp [h1]
    · by_cases h2 : x = q
      · simp [h2]
      · have := hall x hxn h1 h2
        simp [this]
/-- The next element as spec looks for it. -/
theorem nxtTo_is (h : aciB n s = true) {p q : Nat} (hp : Ext n s p) (hq : Nxt n s p q) : nxtTo (sgnF (lookS n s)) n (extS (sgnF (lookS n s)) n (2 ^ n - 1)) (2 ^ n - 1) p n = q := by
  have key : ∀ k, k ≤ n → nxtTo (sgnF (lookS n s)) n (extS (sgnF (lookS n s)) n (2 ^ n - 1)) (2 ^ n - 1) p k = if q < k then (q : Int) else -1 := fun k => by
    induction k with
    | zero => intro _; rfl
    | succ k ih =>
      intro hk
      have ih := ih (by omega)
      by_cases hc : (!(k == p) && ((extS (sgnF (lookS n s)) n (2 ^ n - 1)).testBit k && leftB (sgnF (lookS n s)) n (2 ^ n - 1) p k)) = true
      · rw [nxtTo_hit hc]
        simp only [Bool.and_eq_true, Bool.not_eq_true', beq_eq_false_iff_ne, ne_eq] at hc
        have := (left_iff h hp.1 (show k < n by omega) hc.1).1 hc.2.2
        obtain rfl := nxt_one h hp.1 hq this
        rw [if_pos (by omega)]
      · have hc2 := hc
        rw [Bool.not_eq_true] at hc2
        rw [nxtTo_miss hc2, ih]
        by_cases e : q = k
        · exfalso
          subst e
          refine hc ?_
          simp only [Bool.and_eq_true, Bool.not_eq_true', beq_eq_false_iff_ne, ne_eq]
          exact ⟨hq.2.1, (ext_iff h q).2 (nxt_ext h hp.1 hq), (left_iff h hp.1 hq.1 hq.2.1).2 hq⟩
        · by_cases e2 : q < k
          · rw [if_pos e2, if_pos (by omega)]
          · rw [if_neg e2, if_neg (by omega)]
  rw [key n (Nat.le_refl _), if_pos hq.1]
theorem lowB_spec (x : Nat) : ∀ f k, (∀ j, j < k → x.testBit j = false) → (∃ j, j < k + f ∧ x.testBit j = true) → x.testBit (lowB x f k) = true ∧ ∀ j, j < lowB x f k → x.testBit j = false
  | 0, k, hj, ⟨j, h1, h2⟩ => by rw [hj j (by omega)] at h2; cases h2
  | f + 1, k, hj, hx => by
    cases ht : x.testBit k
    · rw [lowB_miss ht]
      refine lowB_spec x f (k + 1) (fun j h1 => ?_) (by obtain ⟨j, h1, h2⟩ := hx; exact ⟨j, by omega, h2⟩)
      rcases Nat.lt_or_ge j k with h2 | h2
      · exact hj j h2
      · obtain rfl : j = k := by omega
        exact ht
    · rw [lowB_hit ht]; exact ⟨ht, hj⟩
/-- The first extreme element. -/
theorem first_ext (h : aciB n s = true) : Ext n s (firstS (extS (sgnF (lookS n s)) n (2 ^ n - 1))) ∧ ∀ p, Ext n s p → firstS (extS (sgnF (lookS n s)) n (2 ^ n - 1)) ≤ p := by
  obtain ⟨h3, h7⟩ := aciB_n h
  have hpow := Nat.pow_le_pow_right (n := 2) (i := 1) (j := n) (by omega) (by omega)
  obtain ⟨p, h1, h2, h4⟩ := ext_some h (set := 2 ^ n - 1) (by omega) (by omega)
  have he := (inT_all h h1).1 h4
  obtain ⟨k1, k2⟩ := lowB_spec (extS (sgnF (lookS n s)) n (2 ^ n - 1)) 7 0 (fun j hj => by omega) ⟨p, by omega, (ext_iff h p).2 he⟩
  refine ⟨(ext_iff h _).1 k1, fun q hq => ?_⟩
  rcases Nat.lt_or_ge q (firstS (extS (sgnF (lookS n s)) n (2 ^ n - 1))) with h5 | h5
  · have := k2 q h5
    rw [(ext_iff h q).2 hq] at this; cases this
  · exact h5
/-- HullOf's list: a round of extreme elements from the first one on. -/
theorem hull_round (h : aciB n s = true) : ∃ R : List Nat, Round (Nxt n s) (Ext n s) (firstS (extS (sgnF (lookS n s)) n (2 ^ n - 1))) R ∧ hullZ n s = R.map (fun (x : Nat) => (x : Int)) := by
  obtain ⟨R, hR, he⟩ := go_round (nx := Nxt n s) (E := Ext n s) (nv := fun a => nxtTo (sgnF (lookS n s)) n (extS (sgnF (lookS n s)) n (2 ^ n - 1)) (2 ^ n - 1) a n) (first := firstS (extS (sgnF (lookS n s)) n (2 ^ n - 1))) (n := n)
    (fun v hv => hv.1) (fun v hv => by
      obtain ⟨q, hq⟩ := nxt_some h hv
      exact ⟨q, nxtTo_is h hv hq, hq, nxt_ext h hv.1 hq, hq.2.1⟩) (fun v v' u hv hv' h1 h2 => nxt_inj h hv.1 hv'.1 h1 h2) n (firstS (extS (sgnF (lookS n s)) n (2 ^ n - 1))) [] (by simp)
    ⟨by simp, fun v hv => by rw [List.mem_singleton.1 hv]; exact (first_ext h).1, rfl, fun v hv => by simp at hv, fun v hv => by simp at hv, .inl rfl⟩
  refine ⟨R, hR, ?_⟩
  unfold hullZ allS
  rw [if_pos h, Int.toNat_natCast]
  exact he
/-- Every extreme element is in it. -/
theorem round_all (h : aciB n s = true) {first : Nat} {R : List Nat} (hR : Round (Nxt n s) (Ext n s) first R) {p : Nat} (hp : Ext n s p) : p ∈ R := by
  by_cases hm : p ∈ R
  · exact hm
  · exfalso
    obtain ⟨q, hq, hall⟩ := last_of h hp R (fun e => by have := hR.head; rw [e] at this; cases this) (fun x hx => ⟨(hR.ext x hx).1, fun e => hm (e ▸ hx)⟩)
    obtain ⟨u, hu, hqu⟩ := hR.succ q hq
    have e1 : p ≠ q := fun e => hm (e ▸ hq)
    have e2 : p ≠ u := fun e => hm (e ▸ hu)
    have k1 := hqu.2.2 p hp.1 e1 e2
    have k2 := hall u hu hqu.2.1
    have hne := hqu.2.1
    have r1 := rot (lookS n s) (a := (q : Int)) (b := u) (c := p) (by omega) (by omega) (by omega)
    have s1 := sgnF_s2 (lookS n s) (a := p) (b := q) (c := u) (by omega) (by omega) (by omega)
    omega
/-- It has three elements at least. -/
theorem round_three (h : aciB n s = true) {first : Nat} {R : List Nat} (hR : Round (Nxt n s) (Ext n s) first R) : 3 ≤ R.length := by
  have h3 := (aciB_n h).1
  cases R with
  | nil => have := hR.head; cases this
  | cons a R =>
    obtain ⟨u, hu, hau⟩ := hR.succ a List.mem_cons_self
    have hua := hau.2.1
    obtain ⟨v, hv, huv⟩ := hR.succ u hu
    have hvu := huv.2.1
    have han := (hR.ext a List.mem_cons_self).1
    by_cases e : v = a
    · exfalso
      subst e
      obtain ⟨x, hx, x1, x2⟩ : ∃ x, x < n ∧ x ≠ v ∧ x ≠ u := by
        rcases (by omega : (0 ≠ v ∧ 0 ≠ u) ∨ (1 ≠ v ∧ 1 ≠ u) ∨ (2 ≠ v ∧ 2 ≠ u)) with h | h | h
        · exact ⟨0, by omega, h.1, h.2⟩
        · exact ⟨1, by omega, h.1, h.2⟩
        · exact ⟨2, by omega, h.1, h.2⟩
      have k1 := hau.2.2 x hx x1 x2
      have k2 := huv.2.2 x hx x2 x1
      have s1 := sgnF_s1 (lookS n s) (a := v) (b := u) (c := x) (by omega) (by omega) (by omega)
      omega
    · cases R with
      | nil => simp at hu; omega
      | cons b R =>
        cases R with
        | nil => simp at hu hv; omega
        | cons c R => simp
end
end Go.Proofs.YtpjjohbahhaeoaaGreatDoor.Sg
/- Hulls, as spec tells them: IsConvex. -/
namespace Go.Proofs.YtpjjohbahhaeoaaGreatDoor.Sg
open Go.RowKit Pt NewI
/-- What IsConvex answers. -/
def cvxB (n : Int) (s : List UInt8) : Bool := aciB n s && (hszZ n s == n)
end Go.Proofs.YtpjjohbahhaeoaaGreatDoor.Sg
/- Hulls on plain functions: the numbers that FnHulls compares. -/
namespace Go.Proofs.YtpjjohbahhaeoaaGreatDoor.Sg
/-- Different members of a list are as many as it has at most. -/
theorem nodup_sub : ∀ L R : List Nat, L.Nodup → (∀ x ∈ L, x ∈ R) → L.length ≤ R.length
  | [], _, _, _ => Nat.zero_le _
  | a :: L, R, hn, h => by
    obtain ⟨h1, h2⟩ := List.nodup_cons.1 hn
    have ha := h a List.mem_cons_self
    have ih := nodup_sub L (R.erase a) h2 (fun x hx => (List.mem_erase_of_ne (fun (e : x = a) => h1 (e ▸ hx))).2 (h x (List.mem_cons_of_mem _ hx)))
    rw [List.length_erase, if_pos ha] at ih
    have := List.length_pos_of_mem ha
    simp only [List.length_cons]
    omega
/-- How many elements a set has. -/
def pcS (x : Nat) : Nat := (setsTo x.testBit 7).length
theorem pcS_eq (x : Nat) : pcS x = (List.range 7).countP x.testBit := by unfold pcS setsTo; rw [List.length_map, List.countP_eq_length_filter]
theorem countP_split (p q r : Nat → Bool) (h : ∀ x, p x = (q x || r x)) (hd : ∀ x, q x = true → r x = false) : ∀ L : List Nat, L.countP p = L.countP q + L.countP r
  | [] => rfl
  | a :: L => by
    have ih := countP_split p q r h hd L
    have h1 := h a
    have h2 := hd a
    rw [List.countP_cons, List.countP_cons, List.countP_cons, ih, h1]
    cases hq : q a <;> cases hr : r a <;> simp_all <;> omega
section
variable {n : Nat} {s : List UInt8}
theorem pcS_rest (F : Int → Int → Int → Int) (set : Nat) : pcS set = pcS (extS F n set) + pcS (restS F n set) := by
  rw [pcS_eq, pcS_eq, pcS_eq]
  have hsub : ∀ x, (extS F n set).testBit x = true → set.testBit x = true := fun x hx => by
    unfold extS at hx
    rw [extTo_bit] at hx
    simp only [Bool.and_eq_true] at hx
    exact hx.2.1
  have hr : ∀ x, (restS F n set).testBit x = (set.testBit x && !(extS F n set).testBit x) := fun x => by
    unfold restS
    rw [Nat.testBit_xor, Nat.testBit_and]
    cases set.testBit x <;> cases (extS F n set).testBit x <;> rfl
  refine countP_split _ _ _ (fun x => ?_) (fun x hx => ?_) _
  · rw [hr]
    have := hsub x
    cases h1 : (extS F n set).testBit x
    · simp
    · rw [this h1]; rfl
  · rw [hr, hx]; simp
/-- The layers' lengths add up to the set's elements. -/
theorem lay_sum (h : aciB n s = true) : ∀ k set, set < 2 ^ n → set ≤ k → ((layL (sgnF (lookS n s)) n k set).map List.length).sum = pcS set
  | 0, set, _, hk => by obtain rfl : set = 0 := by omega
                        rfl
  | k + 1, set, hlt, hk => by
    by_cases h0 : set = 0
    · subst h0; rfl
    · have hr := rest_lt h h0 hlt
      have hl : layL (sgnF (lookS n s)) n (k + 1) set = setsTo (extS (sgnF (lookS n s)) n set).testBit 7 :: layL (sgnF (lookS n s)) n k (restS (sgnF (lookS n s)) n set) := by
        show (if set = 0 then _ else _) = _
        rw [if_neg h0]
      rw [hl, List.map_cons, List.sum_cons, lay_sum h k _ (by omega) (by omega), pcS_rest (n := n) (sgnF (lookS n s)) set]
      rfl
theorem pcS_all : ∀ n, n < 8 → pcS (2 ^ n - 1) = n := by decide +kernel
/-- HullOf has as many elements as HullSize says. -/
theorem round_size (h : aciB n s = true) {first : Nat} {R : List Nat} (hR : Round (Nxt n s) (Ext n s) first R) : R.length = pcS (extS (sgnF (lookS n s)) n (2 ^ n - 1)) := by
  have h7 := (aciB_n h).2
  have hm : ∀ x, x ∈ (List.range 7).filter (extS (sgnF (lookS n s)) n (2 ^ n - 1)).testBit ↔ x ∈ R := fun x => by
    rw [List.mem_filter, List.mem_range]
    constructor
    · intro hx
      exact round_all h hR ((ext_iff h x).1 hx.2)
    · intro hx
      have he := hR.ext x hx
      have := he.1
      exact ⟨by omega, (ext_iff h x).2 he⟩
  have h1 := nodup_sub _ R ((List.nodup_range (n := 7)).filter _) (fun x hx => (hm x).1 hx)
  have h2 := nodup_sub R _ hR.nodup (fun x hx => (hm x).2 hx)
  unfold pcS setsTo
  rw [List.length_map]
  omega
/-- What is in the hull of a set of others is not extreme. -/
theorem inH_ext {n : Int} {s : List UInt8} {set p : Int} (hi : inHB n s set p = true) : extB n s p = false := by
  unfold inHB at hi
  simp only [Bool.and_eq_true] at hi
  obtain ⟨h, hp, hset, -, hin⟩ := hi
  obtain ⟨h3, h7⟩ := aciB_n h
  obtain ⟨n, rfl⟩ : ∃ m : Nat, n = m := ⟨n.toNat, by omega⟩
  obtain ⟨p0, p1⟩ := Pt.inB_mem hp
  obtain ⟨p, rfl⟩ : ∃ m : Nat, p = m := ⟨p.toNat, by omega⟩
  rw [Int.toNat_natCast, Int.toNat_natCast] at hin
  obtain ⟨a, b, c, -, -, -, hi⟩ := (inT_iff h _ p).1 hin
  have hd := in_dis h hi
  unfold Dis at hd
  rw [extB_yes h hp]
  have : inT (sgnF (lookS n s)) n (2 ^ n - 1) p = true := (inT_iff h _ p).2 ⟨a, b, c, by rw [all_bit]; simpa using hd.2.1, by rw [all_bit]; simpa using hd.2.2.1, by rw [all_bit]; simpa using hd.2.2.2.1, hi⟩
  rw [this]; rfl
/-- Whoever is in HullOf's list is extreme, as IsExtreme says. -/
theorem ext_yes (h : aciB n s = true) {p : Nat} (hp : Ext n s p) : extB n s p = true := by
  rw [extB_yes h (Pt.inB_yes (by omega) (by have := hp.1; omega)), (inT_all h hp.1).2 hp]; rfl
end
end Go.Proofs.YtpjjohbahhaeoaaGreatDoor.Sg
/- Hulls on plain functions: what impl's lists of elements tell. -/
namespace Go.Proofs.YtpjjohbahhaeoaaGreatDoor.Sg
def zl (L : List Nat) : List Int := L.map fun (x : Nat) => (x : Int)
theorem zl_length (L : List Nat) : (zl L).length = L.length := List.length_map _
theorem zl_nil {L : List Nat} (h : zl L = []) : L = [] := by cases L with
  | nil => rfl
  | cons a l => cases h
theorem zl_cons {L : List Nat} {z : Int} {zs : List Int} (h : zl L = z :: zs) : ∃ a l, L = a :: l ∧ (a : Int) = z ∧ zl l = zs := by
  cases L with
  | nil => cases h
  | cons a l =>
    injection h with h1 h2
    exact ⟨a, l, rfl, h1, h2⟩
theorem zl_inj : ∀ {A B : List Nat}, zl A = zl B → A = B
  | [], B, h => (zl_nil h.symm).symm
  | a :: A, B, h => by
    obtain ⟨b, l, rfl, h1, h2⟩ := zl_cons h.symm
    have h1 : (b : Int) = (a : Int) := h1
    rw [zl_inj h2.symm]
    have : b = a := by omega
    rw [this]
/-- The elements of a set, ascending. -/
def eltN (set : Nat) : List Nat := (List.range 7).filter set.testBit
theorem setsTo_elt (set : Nat) : setsTo set.testBit 7 = zl (eltN set) := rfl
theorem mem_elt {set x : Nat} : x ∈ eltN set ↔ x < 7 ∧ set.testBit x = true := by unfold eltN; rw [List.mem_filter, List.mem_range]
theorem bit_lt {n set x : Nat} (hs : set < 2 ^ n) (hx : set.testBit x = true) : x < n := by
  rcases Nat.lt_or_ge x n with h | h
  · exact h
  · rw [Nat.testBit_lt_two_pow (Nat.lt_of_lt_of_le hs (Nat.pow_le_pow_right (by omega) h))] at hx; cases hx
theorem elt_lt {n set x : Nat} (hs : set < 2 ^ n) (hx : x ∈ eltN set) : x < n := bit_lt hs (mem_elt.1 hx).2
theorem elt_sorted (set : Nat) : (eltN set).Pairwise (· < ·) := List.pairwise_lt_range.filter _
theorem elt_nodup (set : Nat) : (eltN set).Nodup := (List.nodup_range (n := 7)).filter _
theorem elt_len (set : Nat) : (eltN set).length ≤ 7 := by
  have := List.length_filter_le set.testBit (List.range 7)
  rw [List.length_range] at this
  exact this
/-- Is p inside a triangle of a list's elements? -/
def insL (F : Int → Int → Int → Int) (L : List Nat) (p : Nat) : Bool := (threes L.length).any fun t => isIn (cir F p (L.getD t.1 0 : Nat) (L.getD t.2.1 0 : Nat) (L.getD t.2.2 0 : Nat))
/-- Those of a list's elements that are inside no triangle of the others. -/
def extL (F : Int → Int → Int → Int) (L : List Nat) : List Nat := L.filter fun p => !insL F L p
section
variable {n : Nat} {s : List UInt8}
theorem insL_eq (h : aciB n s = true) {set p : Nat} (_hset : set < 2 ^ n) : insL (sgnF (lookS n s)) (eltN set) p = inT (sgnF (lookS n s)) n set p := by
  have h7 := (aciB_n h).2
  have hlen := elt_len set
  rw [Bool.eq_iff_iff, inT_iff h]
  unfold insL
  rw [List.any_eq_true]
  constructor
  · rintro ⟨t, ht, hi⟩
    obtain ⟨t1, t2, t3⟩ := threes_mem hlen ht
    have m : ∀ k, k < (eltN set).length → set.testBit ((eltN set).getD k 0) = true := fun k hk => by
      rw [List.getD_eq_getElem?_getD, List.getElem?_eq_getElem hk]
      exact (mem_elt.1 (List.getElem_mem hk)).2
    exact ⟨_, _, _, m _ (by omega), m _ (by omega), m _ t3, hi⟩
  · rintro ⟨a, b, c, ha, hb, hc, hi⟩
    have hd := in_dis h hi
    unfold Dis at hd
    have o := List.pairwise_iff_getElem.1 (elt_sorted set)
    have lt : ∀ i j (hi : i < (eltN set).length) (hj : j < (eltN set).length), (eltN set)[i] < (eltN set)[j] → i < j := fun i j hi hj hl => by
      rcases Nat.lt_trichotomy i j with h | h | h
      · exact h
      · subst h; exact absurd hl (Nat.lt_irrefl _)
      · exact absurd (o j i hj hi h) (by omega)
    have mk : ∀ x y z, set.testBit x = true → set.testBit y = true → set.testBit z = true → x < y → y < z → z < n → In n s p x y z → ∃ t, t ∈ threes (eltN set).length ∧ isIn (cir (sgnF (lookS n s)) p ((eltN set).getD t.1 0 : Nat) ((eltN set).getD t.2.1 0 : Nat) ((eltN set).getD t.2.2 0 : Nat)) = true := fun x y z hx hy hz k1 k2 k3 hi => by
      obtain ⟨i, i1, e1⟩ := List.getElem_of_mem (mem_elt.2 ⟨by omega, hx⟩)
      obtain ⟨j, j1, e2⟩ := List.getElem_of_mem (mem_elt.2 ⟨by omega, hy⟩)
      obtain ⟨k, l1, e3⟩ := List.getElem_of_mem (mem_elt.2 ⟨by omega, hz⟩)
      have g : ∀ q (hq : q < (eltN set).length), (eltN set).getD q 0 = (eltN set)[q] := fun q hq => by rw [List.getD_eq_getElem?_getD, List.getElem?_eq_getElem hq]; rfl
      refine ⟨(i, j, k), threes_in hlen (lt i j i1 j1 (by omega)) (lt j k j1 l1 (by omega)) l1, ?_⟩
      show isIn (cir (sgnF (lookS n s)) p ((eltN set).getD i 0 : Nat) ((eltN set).getD j 0 : Nat) ((eltN set).getD k 0 : Nat)) = true
      rw [g i i1, g j j1, g k l1, e1, e2, e3]
      exact hi
    rcases (by omega : (a < b ∧ b < c) ∨ (a < c ∧ c < b) ∨ (b < a ∧ a < c) ∨ (b < c ∧ c < a) ∨ (c < a ∧ a < b) ∨ (c < b ∧ b < a)) with ⟨k1, k2⟩ | ⟨k1, k2⟩ | ⟨k1, k2⟩ | ⟨k1, k2⟩ | ⟨k1, k2⟩ | ⟨k1, k2⟩
    · exact mk a b c ha hb hc k1 k2 (by omega) hi
    · exact mk a c b ha hc hb k1 k2 (by omega) (in_s2 h hi)
    · exact mk b a c hb ha hc k1 k2 (by omega) (in_s1 h hi)
    · exact mk b c a hb hc ha k1 k2 (by omega) (in_s2 h (in_s1 h hi))
    · exact mk c a b hc ha hb k1 k2 (by omega) (in_s1 h (in_s2 h hi))
    · exact mk c b a hc hb ha k1 k2 (by omega) (in_s1 h (in_s2 h (in_s1 h hi)))
theorem extL_eq (h : aciB n s = true) {set : Nat} (hset : set < 2 ^ n) : extL (sgnF (lookS n s)) (eltN set) = eltN (extS (sgnF (lookS n s)) n set) := by
  have e : ∀ p, insL (sgnF (lookS n s)) (eltN set) p = inT (sgnF (lookS n s)) n set p := fun p => insL_eq h hset
  unfold extL
  rw [show (fun p => !insL (sgnF (lookS n s)) (eltN set) p) = fun p => !inT (sgnF (lookS n s)) n set p from funext fun p => by rw [e]]
  unfold eltN
  rw [List.filter_filter]
  refine List.filter_congr fun x _ => ?_
  unfold extS
  rw [extTo_bit]
  cases hb : set.testBit x
  · simp
  · have := bit_lt hset hb
    simp [this]
/-- What is left of a set's elements without its extreme ones. -/
theorem left_eq (F : Int → Int → Int → Int) (set : Nat) : ((eltN set).filter fun p => !(eltN (extS F n set)).contains p) = eltN (restS F n set) := by
  unfold restS
  show List.filter (fun p => !(eltN (extS F n set)).contains p) ((List.range 7).filter set.testBit) = (List.range 7).filter _
  rw [List.filter_filter]
  refine List.filter_congr fun x hx => ?_
  have hx7 := List.mem_range.1 hx
  rw [Nat.testBit_xor, Nat.testBit_and]
  have hc : (eltN (extS F n set)).contains x = (extS F n set).testBit x := by
    rw [Bool.eq_iff_iff, List.contains_iff_mem, mem_elt]
    exact ⟨fun h => h.2, fun h => ⟨hx7, h⟩⟩
  rw [hc]
  cases set.testBit x <;> cases (extS F n set).testBit x <;> rfl
end
end Go.Proofs.YtpjjohbahhaeoaaGreatDoor.Sg
/- Hulls on plain functions: the extreme elements behind the first one, sorted around it, are HullOf's list. -/
namespace Go.Proofs.YtpjjohbahhaeoaaGreatDoor.Sg
open HuSort
/-- Each one of a list and the next. -/
def Ch (r : Nat → Nat → Prop) : List Nat → Prop
  | [] => True
  | [_] => True
  | a :: b :: l => r a b ∧ Ch r (b :: l)
theorem hullGo_ch {nx : Nat → Int} {first : Nat} : ∀ (f a : Nat) (R : List Nat), hullGo nx first f a = zl R → Ch (fun x y => nx x = (y : Int)) R
  | 0, a, R, h => by rw [zl_nil h.symm]; trivial
  | f + 1, a, R, h => by
    by_cases hst : nx a = (first : Int) ∨ nx a < 0
    · rw [hullGo_stop hst] at h
      obtain ⟨x, l, rfl, -, h2⟩ := zl_cons h.symm
      rw [zl_nil h2]; trivial
    · obtain ⟨b, hb⟩ : ∃ b : Nat, nx a = (b : Int) := ⟨(nx a).toNat, by omega⟩
      rw [hullGo_on hst hb] at h
      obtain ⟨x, l, rfl, h1, h2⟩ := zl_cons h.symm
      obtain rfl : x = a := by omega
      have ih := hullGo_ch f b l h2.symm
      cases f with
      | zero => rw [zl_nil h2]; trivial
      | succ f =>
        obtain ⟨y, l', rfl, h3, -⟩ : ∃ y l', l = y :: l' ∧ (y : Int) = b ∧ True := by
          have e : ∃ zs, hullGo nx first (f + 1) b = (b : Int) :: zs := ⟨_, rfl⟩
          obtain ⟨zs, e⟩ := e
          rw [e] at h2
          obtain ⟨y, l', h4, h5, -⟩ := zl_cons h2
          exact ⟨y, l', h4, h5, trivial⟩
        exact ⟨by show nx x = (y : Int); rw [hb]; exact h3.symm, ih⟩
section
variable {n : Nat} {s : List UInt8}
/-- Who comes first, around an element. -/
def befO (F : Int → Int → Int → Int) (h0 a b : Nat) : Bool := decide (F h0 a b = 1)
theorem befO_ord (h : aciB n s = true) {h0 : Nat} (he : Ext n s h0) : Ord (befO (sgnF (lookS n s)) h0) (fun a => a < n ∧ a ≠ h0) := by
  refine ⟨fun a b ha hb hab => ?_, fun a b c ha hb hc h1 h2 h3 k1 k2 => ?_⟩
  · unfold befO
    rcases one_or h he.1 ha.1 hb.1 (fun e => ha.2 e.symm) (fun e => hb.2 e.symm) hab with e | e
    · exact .inl (decide_eq_true e)
    · exact .inr (decide_eq_true e)
  · unfold befO at *
    exact decide_eq_true (ext_trans h he ⟨he.1, ha.1, hb.1, hc.1, fun e => ha.2 e.symm, fun e => hb.2 e.symm, fun e => hc.2 e.symm, h1, h3, h2⟩ (of_decide_eq_true k1) (of_decide_eq_true k2))
theorem befO_as (_h : aciB n s = true) {h0 a b : Nat} (_hn : h0 < n) (ha : a < n ∧ a ≠ h0) (hb : b < n ∧ b ≠ h0) (k1 : befO (sgnF (lookS n s)) h0 a b = true) (k2 : befO (sgnF (lookS n s)) h0 b a = true) : a = b := by
  by_cases e : a = b
  · exact e
  · exfalso
    unfold befO at k1 k2
    have k1 := of_decide_eq_true k1
    have k2 := of_decide_eq_true k2
    have := sgnF_s2 (lookS n s) (a := (h0 : Int)) (b := a) (c := b) (by omega) (by omega) (by omega)
    omega
theorem ch_sorted (h : aciB n s = true) {h0 : Nat} (he : Ext n s h0) : ∀ T : List Nat, (∀ x ∈ T, x < n ∧ x ≠ h0) → T.Nodup → Ch (Nxt n s) T → T.Pairwise fun a b => befO (sgnF (lookS n s)) h0 a b = true
  | [], _, _, _ => List.Pairwise.nil
  | [a], _, _, _ => List.pairwise_singleton _ _
  | a :: b :: l, hm, hd, hc => by
    obtain ⟨hab, hc2⟩ := hc
    obtain ⟨d1, d2⟩ := List.nodup_cons.1 hd
    have ih := ch_sorted h he (b :: l) (fun x hx => hm x (List.mem_cons_of_mem _ hx)) d2 hc2
    have ma := hm a List.mem_cons_self
    have mb := hm b (by simp)
    have ne : a ≠ b := fun e => d1 (e ▸ List.mem_cons_self)
    have hord := befO_ord h he
    have k : befO (sgnF (lookS n s)) h0 a b = true := by
      have := hab.2.2 h0 he.1 (fun e => ma.2 e.symm) (fun e => mb.2 e.symm)
      unfold befO
      rw [rot (lookS n s) (a := (a : Int)) (b := b) (c := h0) (by omega) (by omega) (by omega)]
      exact decide_eq_true this
    refine List.pairwise_cons.2 ⟨fun x hx => ?_, ih⟩
    rcases List.mem_cons.1 hx with rfl | hx
    · exact k
    · have mx := hm x (by simp [hx])
      have e1 : b ≠ x := fun e => (List.nodup_cons.1 d2).1 (e ▸ hx)
      have e2 : a ≠ x := fun e => d1 (e ▸ List.mem_cons_of_mem _ hx)
      exact hord.trans a b x ma mb mx ne e1 e2 k ((List.pairwise_cons.1 ih).1 x hx)
theorem elt_first {x first : Nat} (hx : x < 128) (hf : x.testBit first = true) (hmin : ∀ j, j < first → x.testBit j = false) : ∃ T, eltN x = first :: T := by
  have hf7 : first < 7 := by
    rcases Nat.lt_or_ge first 7 with h | h
    · exact h
    · rw [Nat.testBit_lt_two_pow (Nat.lt_of_lt_of_le hx (Nat.pow_le_pow_right (n := 2) (i := 7) (by omega) h))] at hf
      cases hf
  have hm : first ∈ eltN x := mem_elt.2 ⟨hf7, hf⟩
  have hs := elt_sorted x
  cases hE : eltN x with
  | nil => rw [hE] at hm; cases hm
  | cons a T =>
    rw [hE] at hm hs
    have ha : a ∈ eltN x := by rw [hE]; exact List.mem_cons_self
    rcases List.mem_cons.1 hm with e | e
    · exact ⟨T, by rw [e]⟩
    · have h1 := (List.pairwise_cons.1 hs).1 first e
      have h2 := hmin a h1
      rw [(mem_elt.1 ha).2] at h2; cases h2
/-- HullOf's list: the first extreme element and the others sorted around it. -/
theorem hull_sorted (h : aciB n s = true) : ∃ h0 T, eltN (extS (sgnF (lookS n s)) n (2 ^ n - 1)) = h0 :: T ∧ T ≠ [] ∧ h0 < n ∧ (∀ x ∈ T, x < n ∧ x ≠ h0) ∧ hullZ n s = zl (h0 :: sortK (befO (sgnF (lookS n s)) h0) T T.length) := by
  obtain ⟨h3, h7⟩ := aciB_n h
  obtain ⟨R, hR, hz⟩ := hull_round h
  obtain ⟨hf, hmin⟩ := first_ext h
  have hR3 := round_three h hR
  have hxl : extS (sgnF (lookS n s)) n (2 ^ n - 1) < 128 := Nat.lt_of_lt_of_le (extTo_lt (sgnF (lookS n s)) n (2 ^ n - 1) n) (pow_le7 (by omega))
  have hEx := fun p => ext_iff h p
  obtain ⟨T, hT⟩ := elt_first (x := extS (sgnF (lookS n s)) n (2 ^ n - 1)) (first := firstS (extS (sgnF (lookS n s)) n (2 ^ n - 1))) hxl ((hEx _).2 hf) (fun j hj => by
    cases hb : (extS (sgnF (lookS n s)) n (2 ^ n - 1)).testBit j
    · rfl
    · have := hmin j ((hEx j).1 hb); omega)
  have hnd := elt_nodup (extS (sgnF (lookS n s)) n (2 ^ n - 1))
  have hmem : ∀ x, x ∈ eltN (extS (sgnF (lookS n s)) n (2 ^ n - 1)) ↔ Ext n s x := fun x => by
    rw [mem_elt, hEx]
    exact ⟨fun hx => hx.2, fun hx => ⟨by have := hx.1; omega, hx⟩⟩
  have hch : Ch (Nxt n s) R := by
    have hz2 := hz
    unfold hullZ allS at hz2
    rw [if_pos h, Int.toNat_natCast] at hz2
    have hc := hullGo_ch _ _ R hz2
    have key : ∀ L : List Nat, (∀ x ∈ L, Ext n s x) → Ch (fun x y => nxtTo (sgnF (lookS n s)) n (extS (sgnF (lookS n s)) n (2 ^ n - 1)) (2 ^ n - 1) x n = (y : Int)) L → Ch (Nxt n s) L := fun L => by
      induction L with
      | nil => exact fun _ _ => trivial
      | cons a l ih =>
        intro hm hc
        cases l with
        | nil => trivial
        | cons b l =>
          obtain ⟨q, hq⟩ := nxt_some h (hm a List.mem_cons_self)
          have e := nxtTo_is h (hm a List.mem_cons_self) hq
          have e2 : q = b := by have := hc.1; omega
          exact ⟨e2 ▸ hq, ih (fun x hx => hm x (List.mem_cons_of_mem _ hx)) hc.2⟩
    exact key R hR.ext hc
  rw [hT] at hnd hmem ⊢
  generalize firstS (extS (sgnF (lookS n s)) n (2 ^ n - 1)) = h0 at hR hf hmin hT hnd hmem ⊢
  obtain ⟨n1, n2⟩ := List.nodup_cons.1 hnd
  obtain ⟨R', rfl⟩ : ∃ R', R = h0 :: R' := by
    cases R with
    | nil => simp at hR3
    | cons a l =>
      have := hR.head
      simp only [List.head?_cons, Option.some.injEq] at this
      exact ⟨l, by rw [this]⟩
  obtain ⟨r1, r2⟩ := List.nodup_cons.1 hR.nodup
  have hmT : ∀ x ∈ T, x < n ∧ x ≠ h0 := fun x hx => ⟨((hmem x).1 (List.mem_cons_of_mem _ hx)).1, fun e => n1 (e ▸ hx)⟩
  have hmR : ∀ x ∈ R', x < n ∧ x ≠ h0 := fun x hx => ⟨(hR.ext x (List.mem_cons_of_mem _ hx)).1, fun e => r1 (e ▸ hx)⟩
  have hchR : Ch (Nxt n s) R' := by
    cases R' with
    | nil => trivial
    | cons b l => exact hch.2
  have sR := ch_sorted h hf R' hmR r2 hchR
  have sT := sortK_sorted (befO_ord h hf) hmT n2 T.length (Nat.le_refl _)
  have pT := sortK_perm (befO (sgnF (lookS n s)) h0) T T.length (Nat.le_refl _)
  rw [List.take_length] at pT
  have e : R' = sortK (befO (sgnF (lookS n s)) h0) T T.length := by
    refine sorted_unique (r := fun a b => befO (sgnF (lookS n s)) h0 a b = true ∧ a ≠ b) R' _ (sR.and r2) (sT.and (pT.symm.nodup n2)) (fun a ha b hb k1 k2 => ?_) (fun x => ?_)
    · exact k1.2 (befO_as h hf.1 (hmR a ha) (hmR b hb) k1.1 k2.1)
    · rw [pT.mem_iff]
      constructor
      · intro hx
        rcases List.mem_cons.1 ((hmem x).2 (hR.ext x (List.mem_cons_of_mem _ hx))) with e | e
        · exact absurd (e ▸ hx) r1
        · exact e
      · intro hx
        rcases List.mem_cons.1 (round_all h hR ((hmem x).1 (List.mem_cons_of_mem _ hx))) with e | e
        · exact absurd (e ▸ hx) n1
        · exact e
  refine ⟨h0, T, rfl, fun e0 => ?_, hf.1, hmT, ?_⟩
  · have := e
    rw [e0] at this
    rw [this] at hR3
    simp [sortK] at hR3
  · rw [hz, ← e]; rfl
end
end Go.Proofs.YtpjjohbahhaeoaaGreatDoor.Sg
