/- Several texts in one: Dist, TrSets, TrCheck, TrRen. -/
import Derived.Lib.Slices
import Derived.Test.YtinlnafkmoabbaaDoorMgKr
import Derived.Test.YtinlnafkmoabbaaDoorMgPl
/- Distances in a graph, told by lists of neighbours: the search in breadth finds the least number of steps. Plain mathematics. -/
namespace Go.Proofs.YtinlnafkmoabbaaDoor.Sg
/-- A walk of just d steps leads from a to v. -/
def Wk (nb : Nat → List Nat) (a : Nat) : Nat → Nat → Prop
  | 0, v => v = a
  | d + 1, v => ∃ u, Wk nb a d u ∧ v ∈ nb u
/-- z is the least number of steps from a to b; -1 if there is no way. -/
def IsDist (nb : Nat → List Nat) (a b : Nat) (z : Int) : Prop :=
  (∃ d : Nat, z = d ∧ Wk nb a d b ∧ ∀ d', d' < d → ¬ Wk nb a d' b) ∨ (z = -1 ∧ ∀ d, ¬ Wk nb a d b)
section
variable {nb : Nat → List Nat} {a b : Nat}
theorem IsDist.unique {z z' : Int} (h : IsDist nb a b z) (h' : IsDist nb a b z') : z = z' := by
  rcases h with ⟨d, rfl, h1, h2⟩ | ⟨rfl, h1⟩
  · rcases h' with ⟨d', rfl, h3, h4⟩ | ⟨rfl, h3⟩
    · have k1 : ¬ d < d' := fun e => h4 d e h1
      have k2 : ¬ d' < d := fun e => h2 d' e h3
      omega
    · exact absurd h1 (h3 d)
  · rcases h' with ⟨d', rfl, h3, -⟩ | ⟨rfl, -⟩
    · exact absurd h3 (h1 d')
    · rfl
theorem IsDist.some {d : Nat} (h : Wk nb a d b) : ∃ z : Nat, IsDist nb a b z := by
  induction d using Nat.strongRecOn with
  | ind d ih =>
    by_cases hx : ∃ d', d' < d ∧ Wk nb a d' b
    · obtain ⟨d', h1, h2⟩ := hx
      exact ih d' h1 h2
    · exact ⟨d, .inl ⟨d, rfl, h, fun d' hd hw => hx ⟨d', hd, hw⟩⟩⟩
theorem wk_cons {c : Nat} (hc : c ∈ nb a) : ∀ {d v : Nat}, Wk nb c d v → Wk nb a (d + 1) v
  | 0, v, h => by
    have h : v = c := h
    subst h
    exact ⟨a, rfl, hc⟩
  | d + 1, v, h => by
    obtain ⟨u, h1, h2⟩ := h
    exact ⟨u, wk_cons hc h1, h2⟩
theorem wk_rev (hs : ∀ u v, v ∈ nb u → u ∈ nb v) : ∀ {d v : Nat}, Wk nb a d v → Wk nb v d a
  | 0, v, h => by
    have h : v = a := h
    subst h; rfl
  | d + 1, v, h => by
    obtain ⟨u, h1, h2⟩ := h
    exact wk_cons (hs u v h2) (wk_rev hs h1)
end
/-- The entries of a search: a number and how far it is. New ones are put at the end. -/
def addA (d : Nat) : List Nat → List (Nat × Nat) → List (Nat × Nat)
  | [], L => L
  | u :: us, L => addA d us (if (L.map Prod.fst).contains u = true then L else L ++ [(u, d)])
theorem addA_pre (d : Nat) : ∀ (us : List Nat) (L : List (Nat × Nat)), ∃ M, addA d us L = L ++ M ∧ ∀ q ∈ M, q.2 = d ∧ q.1 ∈ us
  | [], L => ⟨[], by simp [addA], by simp⟩
  | u :: us, L => by
    unfold addA
    split
    · obtain ⟨M, h1, h2⟩ := addA_pre d us L
      exact ⟨M, h1, fun q hq => ⟨(h2 q hq).1, List.mem_cons_of_mem _ (h2 q hq).2⟩⟩
    · obtain ⟨M, h1, h2⟩ := addA_pre d us (L ++ [(u, d)])
      refine ⟨(u, d) :: M, by rw [h1]; simp, fun q hq => ?_⟩
      rcases List.mem_cons.1 hq with rfl | hq
      · exact ⟨rfl, List.mem_cons_self⟩
      · exact ⟨(h2 q hq).1, List.mem_cons_of_mem _ (h2 q hq).2⟩
theorem addA_nodup (d : Nat) : ∀ (us : List Nat) (L : List (Nat × Nat)), (L.map Prod.fst).Nodup → ((addA d us L).map Prod.fst).Nodup
  | [], _, h => h
  | u :: us, L, h => by
    unfold addA
    split
    · exact addA_nodup d us L h
    · rename_i hc
      refine addA_nodup d us _ ?_
      rw [List.map_append, List.nodup_append]
      refine ⟨h, by simp, fun x hx y hy e => ?_⟩
      simp only [List.map_cons, List.map_nil, List.mem_cons, List.not_mem_nil, or_false] at hy
      subst e hy
      exact hc (List.contains_iff_mem.2 hx)
theorem addA_has (d : Nat) : ∀ (us : List Nat) (L : List (Nat × Nat)) (u : Nat), u ∈ us → u ∈ (addA d us L).map Prod.fst
  | [], _, _, h => by cases h
  | u' :: us, L, u, h => by
    have keep : ∀ L', u ∈ L'.map Prod.fst → u ∈ (addA d us L').map Prod.fst := fun L' hm => by
      obtain ⟨M, e, -⟩ := addA_pre d us L'
      rw [e, List.map_append]
      exact List.mem_append_left _ hm
    unfold addA
    rcases List.mem_cons.1 h with rfl | h
    · split
      · rename_i hc
        exact keep _ (List.contains_iff_mem.1 hc)
      · exact keep _ (by rw [List.map_append]; exact List.mem_append_right _ (by simp))
    · exact addA_has d us _ u h
/-- What the search has found when it goes on at entry k. -/
structure Bf (nb : Nat → List Nat) (a : Nat) (k : Nat) (L : List (Nat × Nat)) : Prop where
  nod : (L.map Prod.fst).Nodup
  start : ∃ q ∈ L, q.1 = a ∧ q.2 = 0
  reach : ∀ q ∈ L, Wk nb a q.2 q.1
  mono : ∀ (i j : Nat) (p q : Nat × Nat), i ≤ j → L[i]? = some p → L[j]? = some q → p.2 ≤ q.2
  near : ∀ p : Nat × Nat, L[k]? = some p → ∀ q ∈ L, q.2 ≤ p.2 + 1
  done : ∀ (i : Nat) (p : Nat × Nat), i < k → L[i]? = some p → ∀ u ∈ nb p.1, ∃ q ∈ L, q.1 = u ∧ q.2 ≤ p.2 + 1
theorem Bf.first (nb : Nat → List Nat) (a : Nat) : Bf nb a 0 [(a, 0)] where
  nod := by simp
  start := ⟨(a, 0), by simp, rfl, rfl⟩
  reach := fun q hq => by
    obtain rfl : q = (a, 0) := by simpa using hq
    exact rfl
  mono := fun i j p q _ h1 h2 => by
    have e1 := List.mem_of_getElem? h1
    have e2 := List.mem_of_getElem? h2
    obtain rfl : p = (a, 0) := by simpa using e1
    obtain rfl : q = (a, 0) := by simpa using e2
    exact Nat.le_refl _
  near := fun p _ q hq => by
    obtain rfl : q = (a, 0) := by simpa using hq
    exact Nat.zero_le _
  done := fun i p hi => by omega
theorem Bf.next {nb : Nat → List Nat} {a k v d : Nat} {L : List (Nat × Nat)} (h : Bf nb a k L) (hk : L[k]? = some (v, d)) : Bf nb a (k + 1) (addA (d + 1) (nb v) L) := by
  obtain ⟨M, e, hM⟩ := addA_pre (d + 1) (nb v) L
  have hn := addA_nodup (d + 1) (nb v) L h.nod
  have hh := addA_has (d + 1) (nb v) L
  rw [e] at hn hh ⊢
  have hkl := (List.getElem?_eq_some_iff.1 hk).1
  have near := h.near _ hk
  have cls : ∀ i q, (L ++ M)[i]? = some q → (L[i]? = some q ∧ i < L.length) ∨ (L.length ≤ i ∧ q ∈ M) := fun i q hq => by
    rcases Nat.lt_or_ge i L.length with hi | hi
    · rw [List.getElem?_append_left hi] at hq
      exact .inl ⟨hq, hi⟩
    · rw [List.getElem?_append_right hi] at hq
      exact .inr ⟨hi, List.mem_of_getElem? hq⟩
  refine ⟨hn, ?_, fun q hq => ?_, fun i j p q hij hp hq => ?_, fun p hp q hq => ?_, fun i p hi hp u hu => ?_⟩
  · obtain ⟨q, hq, h1⟩ := h.start
    exact ⟨q, List.mem_append_left _ hq, h1⟩
  · rcases List.mem_append.1 hq with hq | hq
    · exact h.reach q hq
    · obtain ⟨h1, h2⟩ := hM q hq
      rw [h1]
      exact ⟨v, h.reach (v, d) (List.mem_of_getElem? hk), h2⟩
  · rcases cls i p hp with ⟨hp, hi⟩ | ⟨hi, hp⟩
    · rcases cls j q hq with ⟨hq, -⟩ | ⟨-, hq⟩
      · exact h.mono i j p q hij hp hq
      · have := near p (List.mem_of_getElem? hp)
        rw [(hM q hq).1]; exact this
    · rcases cls j q hq with ⟨-, hj⟩ | ⟨-, hq⟩
      · omega
      · rw [(hM p hp).1, (hM q hq).1]; exact Nat.le_refl _
  · have hd : d ≤ p.2 := by
      rcases cls (k + 1) p hp with ⟨hp, -⟩ | ⟨-, hp⟩
      · exact h.mono k (k + 1) (v, d) p (by omega) hk hp
      · rw [(hM p hp).1]; omega
    rcases List.mem_append.1 hq with hq | hq
    · have := near q hq
      show q.2 ≤ _
      have e : (v, d).2 = d := rfl
      omega
    · rw [(hM q hq).1]; omega
  · have hil : i < L.length := by omega
    rw [List.getElem?_append_left hil] at hp
    rcases Nat.lt_or_ge i k with hi2 | hi2
    · obtain ⟨q, hq, h1⟩ := h.done i p hi2 hp u hu
      exact ⟨q, List.mem_append_left _ hq, h1⟩
    · obtain rfl : i = k := by omega
      rw [hk] at hp
      obtain rfl := Option.some.inj hp
      obtain ⟨q, hq, h1⟩ := List.mem_map.1 (hh u hu)
      refine ⟨q, hq, h1, ?_⟩
      rcases List.mem_append.1 hq with hq | hq
      · exact near q hq
      · rw [(hM q hq).1]; exact Nat.le_refl _
/-- What lies no farther than entry k has been found, and no later than it should. -/
theorem Bf.all {nb : Nat → List Nat} {a k : Nat} {L : List (Nat × Nat)} (h : Bf nb a k L) (D : Nat) (hD : ∀ p : Nat × Nat, L[k]? = some p → D ≤ p.2) : ∀ d v, d ≤ D → Wk nb a d v → ∃ q ∈ L, q.1 = v ∧ q.2 ≤ d
  | 0, v, _, hw => by
    have hw : v = a := hw
    obtain ⟨q, hq, h1, h2⟩ := h.start
    exact ⟨q, hq, by rw [h1, hw], by omega⟩
  | d + 1, v, hd, hw => by
    obtain ⟨u, h1, h2⟩ := hw
    obtain ⟨q, hq, e1, e2⟩ := Bf.all h D hD d u (by omega) h1
    obtain ⟨i, hi, he⟩ := List.getElem_of_mem hq
    have he : L[i]? = some q := by rw [List.getElem?_eq_getElem hi, he]
    have hik : i < k := by
      refine Classical.byContradiction fun hc => ?_
      have hkl : k < L.length := by omega
      have hk : L[k]? = some L[k] := List.getElem?_eq_getElem hkl
      have := h.mono k i _ _ (by omega) hk he
      have := hD _ hk
      omega
    obtain ⟨q', hq', e3, e4⟩ := h.done i q hik he v (by rw [e1]; exact h2)
    exact ⟨q', hq', e3, by omega⟩
end Go.Proofs.YtinlnafkmoabbaaDoor.Sg
/- Full sets of edges, in order; what comes of them by an exchange of one edge. Plain mathematics: c x is the set of edges that cross edge x. -/
namespace Go.Proofs.YtinlnafkmoabbaaDoor.Sg
/-- One more bit, one bit less. -/
theorem bit_parts (T x : Nat) : ∃ q r, r < 2 ^ x ∧ T = 2 ^ (x + 1) * q + ((if T.testBit x = true then 2 ^ x else 0) + r) := by
  refine ⟨T / 2 ^ (x + 1), T % 2 ^ x, Nat.mod_lt _ (Nat.pow_pos (by omega)), ?_⟩
  have h1 := Nat.div_add_mod T (2 ^ (x + 1))
  have h2 : T % 2 ^ (x + 1) = 2 ^ x * (T / 2 ^ x % 2) + T % 2 ^ x := by
    rw [Nat.pow_succ, Nat.mod_mul]
    omega
  have h3 : (if T.testBit x = true then 2 ^ x else 0) = 2 ^ x * (T / 2 ^ x % 2) := by
    rw [Nat.testBit_eq_decide_div_mod_eq]
    rcases Nat.mod_two_eq_zero_or_one (T / 2 ^ x) with h | h <;> rw [h] <;> simp
  rw [h3, ← h2]
  omega
theorem bit_add {T x : Nat} (h : T.testBit x = false) (y : Nat) : (T + 2 ^ x).testBit y = (T.testBit y || decide (y = x)) := by
  obtain ⟨q, r, hr, hT⟩ := bit_parts T x
  rw [if_neg (by rw [h]; simp), Nat.zero_add] at hT
  have hp : 2 ^ (x + 1) = 2 * 2 ^ x := by rw [Nat.pow_succ]; omega
  have e : T + 2 ^ x = 2 ^ (x + 1) * q + (2 ^ x + r) := by omega
  rw [e, hT, Nat.testBit_two_pow_mul_add q (show 2 ^ x + r < 2 ^ (x + 1) by omega), Nat.testBit_two_pow_mul_add q (show r < 2 ^ (x + 1) by omega)]
  split
  · rename_i hy
    rcases (by omega : y < x ∨ y = x) with hl | rfl
    · rw [show (2 ^ x + r) = 2 ^ x * 1 + r by omega, Nat.testBit_two_pow_mul_add 1 hr, if_pos hl]
      simp; omega
    · rw [show (2 ^ y + r) = 2 ^ y * 1 + r by omega, Nat.testBit_two_pow_mul_add 1 hr, if_neg (by omega), Nat.sub_self, Nat.testBit_lt_two_pow hr]
      simp
  · simp; omega
theorem bit_sub {T x : Nat} (h : T.testBit x = true) (y : Nat) : (T - 2 ^ x).testBit y = (T.testBit y && decide (y ≠ x)) := by
  obtain ⟨q, r, hr, hT⟩ := bit_parts T x
  rw [if_pos h] at hT
  have hp : 2 ^ (x + 1) = 2 * 2 ^ x := by rw [Nat.pow_succ]; omega
  have e : T - 2 ^ x = 2 ^ (x + 1) * q + r := by omega
  rw [e]
  conv => rhs; rw [hT]
  rw [Nat.testBit_two_pow_mul_add q (show 2 ^ x + r < 2 ^ (x + 1) by omega), Nat.testBit_two_pow_mul_add q (show r < 2 ^ (x + 1) by omega)]
  split
  · rename_i hy
    rcases (by omega : y < x ∨ y = x) with hl | rfl
    · rw [show (2 ^ x + r) = 2 ^ x * 1 + r by omega, Nat.testBit_two_pow_mul_add 1 hr, if_pos hl]
      simp; omega
    · rw [Nat.testBit_lt_two_pow hr]
      simp
  · simp; omega
theorem sub_le {T x : Nat} (h : T.testBit x = true) : 2 ^ x ≤ T := by
  refine Nat.le_of_not_lt fun hl => ?_
  rw [Nat.testBit_lt_two_pow hl] at h
  cases h
theorem lt_of_bits {T E : Nat} (h : ∀ y, E ≤ y → T.testBit y = false) : T < 2 ^ E := Nat.lt_pow_two_of_testBit T fun y hy => h y hy
theorem bits_of_lt {T E : Nat} (h : T < 2 ^ E) (y : Nat) (hy : E ≤ y) : T.testBit y = false := Nat.testBit_lt_two_pow (Nat.lt_of_lt_of_le h (Nat.pow_le_pow_right (by omega) hy))
theorem lt_of_bit {U V : Nat} (x : Nat) (hu : U.testBit x = false) (hv : V.testBit x = true) (h : ∀ j, x < j → U.testBit j = V.testBit j) : U < V := by
  obtain ⟨q, r, hr, hU⟩ := bit_parts U x
  obtain ⟨q', r', hr', hV⟩ := bit_parts V x
  rw [hu, if_neg (by decide)] at hU
  rw [hv, if_pos rfl] at hV
  have hp : 2 ^ (x + 1) = 2 * 2 ^ x := by rw [Nat.pow_succ]; omega
  have e : q = q' := by
    refine Nat.eq_of_testBit_eq fun j => ?_
    have := h (x + 1 + j) (by omega)
    rw [hU, hV, Nat.testBit_two_pow_mul_add q (show 0 + r < 2 ^ (x + 1) by omega), Nat.testBit_two_pow_mul_add q' (show 2 ^ x + r' < 2 ^ (x + 1) by omega), if_neg (by omega), if_neg (by omega), show x + 1 + j - (x + 1) = j by omega] at this
    exact this
  subst e
  omega
theorem and_zero {a b : Nat} : (a &&& b == 0) = true ↔ ∀ y, a.testBit y = true → b.testBit y = false := by
  rw [beq_iff_eq]
  constructor
  · intro h y ha
    have := congrArg (fun x => x.testBit y) h
    simp only [Nat.testBit_and, ha, Bool.true_and, Nat.zero_testBit] at this
    exact this
  · intro h
    refine Nat.eq_of_testBit_eq fun y => ?_
    rw [Nat.testBit_and, Nat.zero_testBit]
    cases ha : a.testBit y
    · rfl
    · rw [h y ha]; rfl
end Go.Proofs.YtinlnafkmoabbaaDoor.Sg
/- Triangulations of sorted signs (the elements behind 0 lie sorted around it): a finite check, n up to 6. Plain mathematics. -/
namespace Go.Proofs.YtinlnafkmoabbaaDoor.Sg
/-- Edges cross, as four signs tell it. -/
def crG (G : Nat → Nat → Nat → Int) (n : Nat) (x y : Nat) : Bool :=
  let p := edL n x
  let q := edL n y
  !(p.1 == q.1 || (p.1 == q.2 || (p.2 == q.1 || p.2 == q.2))) && (G p.1 q.1 q.2 == -(G p.2 q.1 q.2) && G p.1 p.2 q.2 == -(G p.1 p.2 q.1))
def crC (G : Nat → Nat → Nat → Int) (n : Nat) (x : Nat) : Nat := setN (fun y => crG G n x y) (eN n)
/-- How many edges a set has. -/
def sizE (E T : Nat) : Nat := (List.range E).countP fun x => T.testBit x
/-- Signs of elements sorted around element 0: bits tell the others. -/
def g0 (b i j k : Nat) : Int := if i = 0 then 1 else if b.testBit ((k - 1) * (k - 2) * (k - 3) / 6 + (j - 1) * (j - 2) / 2 + (i - 1)) = true then 1 else -1
end Go.Proofs.YtinlnafkmoabbaaDoor.Sg
/- Elements renamed: signs that keep the rule may be looked at with the others sorted around an extreme element. Plain mathematics. -/
namespace Go.Proofs.YtinlnafkmoabbaaDoor.Sg
open HuSort
/-- Names for elements: p takes each to its element, r back. -/
structure Ren (n : Nat) (p r : Nat → Nat) : Prop where
  lt : ∀ {x}, x < n → p x < n
  lt' : ∀ {x}, x < n → r x < n
  l : ∀ {x}, x < n → r (p x) = x
  r : ∀ {x}, x < n → p (r x) = x
  out : ∀ {x}, n ≤ x → p x = x
theorem Ren.inj {n : Nat} {p r : Nat → Nat} (h : Ren n p r) {x y : Nat} (e : p x = p y) : x = y := by
  rcases Nat.lt_or_ge x n with hx | hx <;> rcases Nat.lt_or_ge y n with hy | hy
  · rw [← h.l hx, e, h.l hy]
  · have := h.lt hx
    have := h.out hy
    omega
  · have := h.lt hy
    have := h.out hx
    omega
  · rw [← h.out hx, e, h.out hy]
end Go.Proofs.YtinlnafkmoabbaaDoor.Sg
