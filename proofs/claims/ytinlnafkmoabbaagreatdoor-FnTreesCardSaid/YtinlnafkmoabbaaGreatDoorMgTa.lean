/- Several texts in one: Dist, TrSets, TrCheck, TrRen. -/
import Derived.Lib.Slices
import Derived.Test.YtinlnafkmoabbaaGreatDoorMgKr
import Derived.Test.YtinlnafkmoabbaaGreatDoorMgPl
/- Distances in a graph, told by lists of neighbours: the search in breadth finds the least number of steps. Plain mathematics. -/
namespace Go.Proofs.YtinlnafkmoabbaaGreatDoor.Sg
/-- A walk of just d steps leads from a to v. -/
def Wk (nb : Nat → List Nat) (a : Nat) : Nat → Nat → Prop
  | 0, v => v = a
  | d + 1, v => ∃ u, Wk nb a d u ∧ v ∈ nb u
/-- z is the least number of steps from a to b; -1 if there is no way. -/
def IsDist (nb : Nat → List Nat) (a b : Nat) (z : Int) : Prop :=
  (∃ d : Nat, z = d ∧ Wk nb a d b ∧ ∀ d', d' < d → ¬ Wk nb a d' b) ∨ (z = -1 ∧ ∀ d, ¬ Wk nb a d b)
section
variable {nb : Nat → List Nat} {a b : Nat}
theorem IsDist.unique {z z' : Int} (h : IsDist nb a b z) (h' : IsDist nb a b z') : z = z' := by
  rcases h with ⟨d, rfl, h1, h2⟩ | ⟨rfl, h1⟩
  · rcases h' with ⟨d', rfl, h3, h4⟩ | ⟨rfl, h3⟩
    · have k1 : ¬ d < d' := fun e => h4 d e h1
      have k2 : ¬ d' < d := fun e => h2 d' e h3
      omega
    · exact absurd h1 (h3 d)
  · rcases h' with ⟨d', rfl, h3, -⟩ | ⟨rfl, -⟩
    · exact absurd h3 (h1 d')
    · rfl
theorem IsDist.some {d : Nat} (h : Wk nb a d b) : ∃ z : Nat, IsDist nb a b z := by
  induction d using Nat.strongRecOn with
  | ind d ih =>
    by_cases hx : ∃ d', d' < d ∧ Wk nb a d' b
    · obtain ⟨d', h1, h2⟩ := hx
      exact ih d' h1 h2
    · exact ⟨d, .inl ⟨d, rfl, h, fun d' hd hw => hx ⟨d', hd, hw⟩⟩⟩
theorem IsDist.exists (nb : Nat → List Nat) (a b : Nat) : ∃ z : Int, IsDist nb a b z := by
  by_cases h : ∃ d, Wk nb a d b
  · obtain ⟨d, h⟩ := h
    obtain ⟨z, hz⟩ := IsDist.some h
    exact ⟨z, hz⟩
  · exact ⟨-1, .inr ⟨rfl, fun d hd => h ⟨d, hd⟩⟩⟩
/-- The distance. -/
noncomputable def distZ (nb : Nat → List Nat) (a b : Nat) : Int := Classical.choose (IsDist.exists nb a b)
theorem distZ_is (nb : Nat → List Nat) (a b : Nat) : IsDist nb a b (distZ nb a b) := Classical.choose_spec (IsDist.exists nb a b)
theorem distZ_eq {z : Int} (h : IsDist nb a b z) : distZ nb a b = z := (distZ_is nb a b).unique h
theorem wk_cons {c : Nat} (hc : c ∈ nb a) : ∀ {d v : Nat}, Wk nb c d v → Wk nb a (d + 1) v
  | 0, v, h => by
    have h : v = c := h
    subst h
    exact ⟨a, rfl, hc⟩
  | d + 1, v, h => by
    obtain ⟨u, h1, h2⟩ := h
    exact ⟨u, wk_cons hc h1, h2⟩
theorem wk_rev (hs : ∀ u v, v ∈ nb u → u ∈ nb v) : ∀ {d v : Nat}, Wk nb a d v → Wk nb v d a
  | 0, v, h => by
    have h : v = a := h
    subst h; rfl
  | d + 1, v, h => by
    obtain ⟨u, h1, h2⟩ := h
    exact wk_cons (hs u v h2) (wk_rev hs h1)
/-- Where neighbours are mutual the distance is the same back. -/
theorem distZ_sym (hs : ∀ u v, v ∈ nb u → u ∈ nb v) : distZ nb a b = distZ nb b a := by
  have h := distZ_is nb b a
  refine distZ_eq ?_
  rcases h with ⟨d, e, h1, h2⟩ | ⟨e, h1⟩
  · exact .inl ⟨d, e, wk_rev hs h1, fun d' hd hw => h2 d' hd (wk_rev hs hw)⟩
  · exact .inr ⟨e, fun d hw => h1 d (wk_rev hs hw)⟩
theorem distZ_zero : distZ nb a b = 0 ↔ b = a := by
  constructor
  · intro h
    rcases distZ_is nb a b with ⟨d, e, h1, -⟩ | ⟨e, -⟩
    · obtain rfl : d = 0 := by omega
      exact h1
    · omega
  · rintro rfl
    exact distZ_eq (.inl ⟨0, rfl, rfl, fun d' hd => by omega⟩)
theorem distZ_one (h : b ∈ nb a) (hne : b ≠ a) : distZ nb a b = 1 :=
  distZ_eq (.inl ⟨1, rfl, ⟨a, rfl, h⟩, fun d' hd hw => by
    obtain rfl : d' = 0 := by omega
    exact hne hw⟩)
theorem distZ_nonneg {d : Nat} (h : Wk nb a d b) : 0 ≤ distZ nb a b := by
  obtain ⟨z, hz⟩ := IsDist.some h
  rw [distZ_eq hz]; omega
end
/-- The entries of a search: a number and how far it is. New ones are put at the end. -/
def addA (d : Nat) : List Nat → List (Nat × Nat) → List (Nat × Nat)
  | [], L => L
  | u :: us, L => addA d us (if (L.map Prod.fst).contains u = true then L else L ++ [(u, d)])
/-- The search goes on at entry k. -/
def bfs (nb : Nat → List Nat) (b : Nat) : Nat → Nat → List (Nat × Nat) → Int
  | 0, _, _ => -1
  | f + 1, k, L =>
    match L[k]? with
    | none => -1
    | some (v, d) => if v = b then d else bfs nb b f (k + 1) (addA (d + 1) (nb v) L)
theorem addA_pre (d : Nat) : ∀ (us : List Nat) (L : List (Nat × Nat)), ∃ M, addA d us L = L ++ M ∧ ∀ q ∈ M, q.2 = d ∧ q.1 ∈ us
  | [], L => ⟨[], by simp [addA], by simp⟩
  | u :: us, L => by
    unfold addA
    split
    · obtain ⟨M, h1, h2⟩ := addA_pre d us L
      exact ⟨M, h1, fun q hq => ⟨(h2 q hq).1, List.mem_cons_of_mem _ (h2 q hq).2⟩⟩
    · obtain ⟨M, h1, h2⟩ := addA_pre d us (L ++ [(u, d)])
      refine ⟨(u, d) :: M, by rw [h1]; simp, fun q hq => ?_⟩
      rcases List.mem_cons.1 hq with rfl | hq
      · exact ⟨rfl, List.mem_cons_self⟩
      · exact ⟨(h2 q hq).1, List.mem_cons_of_mem _ (h2 q hq).2⟩
theorem addA_nodup (d : Nat) : ∀ (us : List Nat) (L : List (Nat × Nat)), (L.map Prod.fst).Nodup → ((addA d us L).map Prod.fst).Nodup
  | [], _, h => h
  | u :: us, L, h => by
    unfold addA
    split
    · exact addA_nodup d us L h
    · rename_i hc
      refine addA_nodup d us _ ?_
      rw [List.map_append, List.nodup_append]
      refine ⟨h, by simp, fun x hx y hy e => ?_⟩
      simp only [List.map_cons, List.map_nil, List.mem_cons, List.not_mem_nil, or_false] at hy
      subst e hy
      exact hc (List.contains_iff_mem.2 hx)
theorem addA_has (d : Nat) : ∀ (us : List Nat) (L : List (Nat × Nat)) (u : Nat), u ∈ us → u ∈ (addA d us L).map Prod.fst
  | [], _, _, h => by cases h
  | u' :: us, L, u, h => by
    have keep : ∀ L', u ∈ L'.map Prod.fst → u ∈ (addA d us L').map Prod.fst := fun L' hm => by
      obtain ⟨M, e, -⟩ := addA_pre d us L'
      rw [e, List.map_append]
      exact List.mem_append_left _ hm
    unfold addA
    rcases List.mem_cons.1 h with rfl | h
    · split
      · rename_i hc
        exact keep _ (List.contains_iff_mem.1 hc)
      · exact keep _ (by rw [List.map_append]; exact List.mem_append_right _ (by simp))
    · exact addA_has d us _ u h
/-- What the search has found when it goes on at entry k. -/
structure Bf (nb : Nat → List Nat) (a : Nat) (k : Nat) (L : List (Nat × Nat)) : Prop where
  nod : (L.map Prod.fst).Nodup
  start : ∃ q ∈ L, q.1 = a ∧ q.2 = 0
  reach : ∀ q ∈ L, Wk nb a q.2 q.1
  mono : ∀ (i j : Nat) (p q : Nat × Nat), i ≤ j → L[i]? = some p → L[j]? = some q → p.2 ≤ q.2
  near : ∀ p : Nat × Nat, L[k]? = some p → ∀ q ∈ L, q.2 ≤ p.2 + 1
  done : ∀ (i : Nat) (p : Nat × Nat), i < k → L[i]? = some p → ∀ u ∈ nb p.1, ∃ q ∈ L, q.1 = u ∧ q.2 ≤ p.2 + 1
theorem Bf.first (nb : Nat → List Nat) (a : Nat) : Bf nb a 0 [(a, 0)] where
  nod := by simp
  start := ⟨(a, 0), by simp, rfl, rfl⟩
  reach := fun q hq => by
    obtain rfl : q = (a, 0) := by simpa using hq
    exact rfl
  mono := fun i j p q _ h1 h2 => by
    have e1 := List.mem_of_getElem? h1
    have e2 := List.mem_of_getElem? h2
    obtain rfl : p = (a, 0) := by simpa using e1
    obtain rfl : q = (a, 0) := by simpa using e2
    exact Nat.le_refl _
  near := fun p _ q hq => by
    obtain rfl : q = (a, 0) := by simpa using hq
    exact Nat.zero_le _
  done := fun i p hi => by omega
theorem Bf.next {nb : Nat → List Nat} {a k v d : Nat} {L : List (Nat × Nat)} (h : Bf nb a k L) (hk : L[k]? = some (v, d)) : Bf nb a (k + 1) (addA (d + 1) (nb v) L) := by
  obtain ⟨M, e, hM⟩ := addA_pre (d + 1) (nb v) L
  have hn := addA_nodup (d + 1) (nb v) L h.nod
  have hh := addA_has (d + 1) (nb v) L
  rw [e] at hn hh ⊢
  have hkl := (List.getElem?_eq_some_iff.1 hk).1
  have near := h.near _ hk
  have cls : ∀ i q, (L ++ M)[i]? = some q → (L[i]? = some q ∧ i < L.length) ∨ (L.length ≤ i ∧ q ∈ M) := fun i q hq => by
    rcases Nat.lt_or_ge i L.length with hi | hi
    · rw [List.getElem?_append_left hi] at hq
      exact .inl ⟨hq, hi⟩
    · rw [List.getElem?_append_right hi] at hq
      exact .inr ⟨hi, List.mem_of_getElem? hq⟩
  refine ⟨hn, ?_, fun q hq => ?_, fun i j p q hij hp hq => ?_, fun p hp q hq => ?_, fun i p hi hp u hu => ?_⟩
  · obtain ⟨q, hq, h1⟩ := h.start
    exact ⟨q, List.mem_append_left _ hq, h1⟩
  · rcases List.mem_append.1 hq with hq | hq
    · exact h.reach q hq
    · obtain ⟨h1, h2⟩ := hM q hq
      rw [h1]
      exact ⟨v, h.reach (v, d) (List.mem_of_getElem? hk), h2⟩
  · rcases cls i p hp with ⟨hp, hi⟩ | ⟨hi, hp⟩
    · rcases cls j q hq with ⟨hq, -⟩ | ⟨-, hq⟩
      · exact h.mono i j p q hij hp hq
      · have := near p (List.mem_of_getElem? hp)
        rw [(hM q hq).1]; exact this
    · rcases cls j q hq with ⟨-, hj⟩ | ⟨-, hq⟩
      · omega
      · rw [(hM p hp).1, (hM q hq).1]; exact Nat.le_refl _
  · have hd : d ≤ p.2 := by
      rcases cls (k + 1) p hp with ⟨hp, -⟩ | ⟨-, hp⟩
      · exact h.mono k (k + 1) (v, d) p (by omega) hk hp
      · rw [(hM p hp).1]; omega
    rcases List.mem_append.1 hq with hq | hq
    · have := near q hq
      show q.2 ≤ _
      have e : (v, d).2 = d := rfl
      omega
    · rw [(hM q hq).1]; omega
  · have hil : i < L.length := by omega
    rw [List.getElem?_append_left hil] at hp
    rcases Nat.lt_or_ge i k with hi2 | hi2
    · obtain ⟨q, hq, h1⟩ := h.done i p hi2 hp u hu
      exact ⟨q, List.mem_append_left _ hq, h1⟩
    · obtain rfl : i = k := by omega
      rw [hk] at hp
      obtain rfl := Option.some.inj hp
      obtain ⟨q, hq, h1⟩ := List.mem_map.1 (hh u hu)
      refine ⟨q, hq, h1, ?_⟩
      rcases List.mem_append.1 hq with hq | hq
      · exact near q hq
      · rw [(hM q hq).1]; exact Nat.le_refl _
/-- What lies no farther than entry k has been found, and no later than it should. -/
theorem Bf.all {nb : Nat → List Nat} {a k : Nat} {L : List (Nat × Nat)} (h : Bf nb a k L) (D : Nat) (hD : ∀ p : Nat × Nat, L[k]? = some p → D ≤ p.2) : ∀ d v, d ≤ D → Wk nb a d v → ∃ q ∈ L, q.1 = v ∧ q.2 ≤ d
  | 0, v, _, hw => by
    have hw : v = a := hw
    obtain ⟨q, hq, h1, h2⟩ := h.start
    exact ⟨q, hq, by rw [h1, hw], by omega⟩
  | d + 1, v, hd, hw => by
    obtain ⟨u, h1, h2⟩ := hw
    obtain ⟨q, hq, e1, e2⟩ := Bf.all h D hD d u (by omega) h1
    obtain ⟨i, hi, he⟩ := List.getElem_of_mem hq
    have he : L[i]? = some q := by rw [List.getElem?_eq_getElem hi, he]
    have hik : i < k := by
      refine Classical.byContradiction fun hc => ?_
      have hkl : k < L.length := by omega
      have hk : L[k]? = some L[k] := List.getElem?_eq_getElem hkl
      have := h.mono k i _ _ (by omega) hk he
      have := hD _ hk
      omega
    obtain ⟨q', hq', e3, e4⟩ := h.done i q hik he v (by rw [e1]; exact h2)
    exact ⟨q', hq', e3, by omega⟩
theorem nodup_sub' : ∀ L R : List Nat, L.Nodup → (∀ x ∈ L, x ∈ R) → L.length ≤ R.length
  | [], _, _, _ => Nat.zero_le _
  | x :: r, l2, hn, hs => by
    obtain ⟨h1, h2⟩ := List.nodup_cons.1 hn
    have hx : x ∈ l2 := hs x (by simp)
    have := nodup_sub' r (l2.erase x) h2 (fun y hy => (List.mem_erase_of_ne (fun e => h1 (by rw [← e]; exact hy))).2 (hs y (List.mem_cons_of_mem _ hy)))
    rw [List.length_erase_of_mem hx] at this
    have : 0 < l2.length := List.length_pos_of_mem hx
    simp; omega
theorem bfs_is {nb : Nat → List Nat} {a b : Nat} (univ : List Nat) (hu : ∀ d v, Wk nb a d v → v ∈ univ) :
    ∀ f k L, Bf nb a k L → (∀ (i : Nat) (q : Nat × Nat), i < k → L[i]? = some q → q.1 ≠ b) → univ.length < f + k → IsDist nb a b (bfs nb b f k L)
  | 0, k, L, h, hb, hf => by
    have hl : L.length ≤ univ.length := by
      rw [show L.length = (L.map Prod.fst).length from (List.length_map _).symm]
      refine nodup_sub' _ _ h.nod fun x hx => ?_
      obtain ⟨q, hq, rfl⟩ := List.mem_map.1 hx
      exact hu _ _ (h.reach q hq)
    refine .inr ⟨rfl, fun d hw => ?_⟩
    obtain ⟨q, hq, e, -⟩ := h.all d (fun p hp => by
      have := (List.getElem?_eq_some_iff.1 hp).1
      omega) d b (Nat.le_refl _) hw
    obtain ⟨i, hi, he⟩ := List.getElem_of_mem hq
    exact hb i q (by omega) (by rw [List.getElem?_eq_getElem hi, he]) e
  | f + 1, k, L, h, hb, hf => by
    unfold bfs
    cases hk : L[k]? with
    | none =>
      have hl := List.getElem?_eq_none_iff.1 hk
      refine .inr ⟨rfl, fun d hw => ?_⟩
      obtain ⟨q, hq, e, -⟩ := h.all d (fun p hp => by rw [hk] at hp; cases hp) d b (Nat.le_refl _) hw
      obtain ⟨i, hi, he⟩ := List.getElem_of_mem hq
      exact hb i q (by omega) (by rw [List.getElem?_eq_getElem hi, he]) e
    | some p =>
      obtain ⟨v, d⟩ := p
      dsimp only
      split
      · rename_i hv
        subst hv
        refine .inl ⟨d, rfl, h.reach _ (List.mem_of_getElem? hk), fun d' hd hw => ?_⟩
        obtain ⟨q, hq, e, e2⟩ := h.all d (fun p hp => by rw [hk] at hp; obtain rfl := Option.some.inj hp; exact Nat.le_refl _) d' v (by omega) hw
        obtain ⟨i, hi, he⟩ := List.getElem_of_mem hq
        have he : L[i]? = some q := by rw [List.getElem?_eq_getElem hi, he]
        have hkl := (List.getElem?_eq_some_iff.1 hk).1
        have hik : ¬ i < k := fun e' => hb i q e' he e
        have := h.mono k i _ _ (by omega) hk he
        have e3 : (v, d).2 = d := rfl
        omega
      · rename_i hv
        refine bfs_is univ hu f (k + 1) _ (h.next hk) (fun i q hi hq => ?_) (by omega)
        obtain ⟨M, e, -⟩ := addA_pre (d + 1) (nb v) L
        have hkl := (List.getElem?_eq_some_iff.1 hk).1
        rw [e, List.getElem?_append_left (by omega)] at hq
        rcases Nat.lt_or_ge i k with hi2 | hi2
        · exact hb i q hi2 hq
        · obtain rfl : i = k := by omega
          rw [hk] at hq
          obtain rfl := Option.some.inj hq
          exact hv
end Go.Proofs.YtinlnafkmoabbaaGreatDoor.Sg
/- Full sets of edges, in order; what comes of them by an exchange of one edge. Plain mathematics: c x is the set of edges that cross edge x. -/
namespace Go.Proofs.YtinlnafkmoabbaaGreatDoor.Sg
/-- One more bit, one bit less. -/
theorem bit_parts (T x : Nat) : ∃ q r, r < 2 ^ x ∧ T = 2 ^ (x + 1) * q + ((if T.testBit x = true then 2 ^ x else 0) + r) := by
  refine ⟨T / 2 ^ (x + 1), T % 2 ^ x, Nat.mod_lt _ (Nat.pow_pos (by omega)), ?_⟩
  have h1 := Nat.div_add_mod T (2 ^ (x + 1))
  have h2 : T % 2 ^ (x + 1) = 2 ^ x * (T / 2 ^ x % 2) + T % 2 ^ x := by
    rw [Nat.pow_succ, Nat.mod_mul]
    omega
  have h3 : (if T.testBit x = true then 2 ^ x else 0) = 2 ^ x * (T / 2 ^ x % 2) := by
    rw [Nat.testBit_eq_decide_div_mod_eq]
    rcases Nat.mod_two_eq_zero_or_one (T / 2 ^ x) with h | h <;> rw [h] <;> simp
  rw [h3, ← h2]
  omega
theorem bit_add {T x : Nat} (h : T.testBit x = false) (y : Nat) : (T + 2 ^ x).testBit y = (T.testBit y || decide (y = x)) := by
  obtain ⟨q, r, hr, hT⟩ := bit_parts T x
  rw [if_neg (by rw [h]; simp), Nat.zero_add] at hT
  have hp : 2 ^ (x + 1) = 2 * 2 ^ x := by rw [Nat.pow_succ]; omega
  have e : T + 2 ^ x = 2 ^ (x + 1) * q + (2 ^ x + r) := by omega
  rw [e, hT, Nat.testBit_two_pow_mul_add q (show 2 ^ x + r < 2 ^ (x + 1) by omega), Nat.testBit_two_pow_mul_add q (show r < 2 ^ (x + 1) by omega)]
  split
  · rename_i hy
    rcases (by omega : y < x ∨ y = x) with hl | rfl
    · rw [show (2 ^ x + r) = 2 ^ x * 1 + r by omega, Nat.testBit_two_pow_mul_add 1 hr, if_pos hl]
      simp; omega
    · rw [show (2 ^ y + r) = 2 ^ y * 1 + r by omega, Nat.testBit_two_pow_mul_add 1 hr, if_neg (by omega), Nat.sub_self, Nat.testBit_lt_two_pow hr]
      simp
  · simp; omega
theorem bit_sub {T x : Nat} (h : T.testBit x = true) (y : Nat) : (T - 2 ^ x).testBit y = (T.testBit y && decide (y ≠ x)) := by
  obtain ⟨q, r, hr, hT⟩ := bit_parts T x
  rw [if_pos h] at hT
  have hp : 2 ^ (x + 1) = 2 * 2 ^ x := by rw [Nat.pow_succ]; omega
  have e : T - 2 ^ x = 2 ^ (x + 1) * q + r := by omega
  rw [e]
  conv => rhs; rw [hT]
  rw [Nat.testBit_two_pow_mul_add q (show 2 ^ x + r < 2 ^ (x + 1) by omega), Nat.testBit_two_pow_mul_add q (show r < 2 ^ (x + 1) by omega)]
  split
  · rename_i hy
    rcases (by omega : y < x ∨ y = x) with hl | rfl
    · rw [show (2 ^ x + r) = 2 ^ x * 1 + r by omega, Nat.testBit_two_pow_mul_add 1 hr, if_pos hl]
      simp; omega
    · rw [Nat.testBit_lt_two_pow hr]
      simp
  · simp; omega
theorem sub_le {T x : Nat} (h : T.testBit x = true) : 2 ^ x ≤ T := by
  refine Nat.le_of_not_lt fun hl => ?_
  rw [Nat.testBit_lt_two_pow hl] at h
  cases h
theorem lt_of_bits {T E : Nat} (h : ∀ y, E ≤ y → T.testBit y = false) : T < 2 ^ E := Nat.lt_pow_two_of_testBit T fun y hy => h y hy
theorem bits_of_lt {T E : Nat} (h : T < 2 ^ E) (y : Nat) (hy : E ≤ y) : T.testBit y = false := Nat.testBit_lt_two_pow (Nat.lt_of_lt_of_le h (Nat.pow_le_pow_right (by omega) hy))
theorem lt_of_bit {U V : Nat} (x : Nat) (hu : U.testBit x = false) (hv : V.testBit x = true) (h : ∀ j, x < j → U.testBit j = V.testBit j) : U < V := by
  obtain ⟨q, r, hr, hU⟩ := bit_parts U x
  obtain ⟨q', r', hr', hV⟩ := bit_parts V x
  rw [hu, if_neg (by decide)] at hU
  rw [hv, if_pos rfl] at hV
  have hp : 2 ^ (x + 1) = 2 * 2 ^ x := by rw [Nat.pow_succ]; omega
  have e : q = q' := by
    refine Nat.eq_of_testBit_eq fun j => ?_
    have := h (x + 1 + j) (by omega)
    rw [hU, hV, Nat.testBit_two_pow_mul_add q (show 0 + r < 2 ^ (x + 1) by omega), Nat.testBit_two_pow_mul_add q' (show 2 ^ x + r' < 2 ^ (x + 1) by omega), if_neg (by omega), if_neg (by omega), show x + 1 + j - (x + 1) = j by omega] at this
    exact this
  subst e
  omega
theorem and_zero {a b : Nat} : (a &&& b == 0) = true ↔ ∀ y, a.testBit y = true → b.testBit y = false := by
  rw [beq_iff_eq]
  constructor
  · intro h y ha
    have := congrArg (fun x => x.testBit y) h
    simp only [Nat.testBit_and, ha, Bool.true_and, Nat.zero_testBit] at this
    exact this
  · intro h
    refine Nat.eq_of_testBit_eq fun y => ?_
    rw [Nat.testBit_and, Nat.zero_testBit]
    cases ha : a.testBit y
    · rfl
    · rw [h y ha]; rfl
/-- Is a set full: is each edge in it just if none of it crosses the edge? -/
def fullB (c : Nat → Nat) (E T : Nat) : Bool := (List.range E).all fun x => T.testBit x == (c x &&& T == 0)
theorem fullB_iff {c : Nat → Nat} {E T : Nat} : fullB c E T = true ↔ ∀ x, x < E → T.testBit x = (c x &&& T == 0) := by
  unfold fullB
  rw [List.all_eq_true]
  constructor
  · intro h x hx
    exact eq_of_beq (h x (List.mem_range.2 hx))
  · intro h x hx
    rw [h x (List.mem_range.1 hx)]
    simp
/-- All full sets that agree with T from x on. -/
def allT (c : Nat → Nat) (E : Nat) : Nat → Nat → List Nat
  | 0, T => if fullB c E T = true then [T] else []
  | x + 1, T => (if (c x == 0) = true then [] else allT c E x T) ++ (if (c x &&& T == 0) = true then allT c E x (T + 2 ^ x) else [])
theorem mem_allT {c : Nat → Nat} {E : Nat} : ∀ (x T : Nat), x ≤ E → (∀ y, y < x → T.testBit y = false) → ∀ U, U ∈ allT c E x T ↔ fullB c E U = true ∧ ∀ y, x ≤ y → U.testBit y = T.testBit y
  | 0, T, _, _, U => by
    unfold allT
    split
    · rename_i h
      rw [List.mem_singleton]
      constructor
      · rintro rfl; exact ⟨h, fun _ _ => rfl⟩
      · rintro ⟨-, h2⟩; exact Nat.eq_of_testBit_eq fun y => h2 y (Nat.zero_le _)
    · rename_i h
      constructor
      · intro hm; cases hm
      · rintro ⟨h1, h2⟩
        obtain rfl : U = T := Nat.eq_of_testBit_eq fun y => h2 y (Nat.zero_le _)
        exact absurd h1 h
  | x + 1, T, hx, hlow, U => by
    have hTx := hlow x (by omega)
    have low2 : ∀ y, y < x → (T + 2 ^ x).testBit y = false := fun y hy => by
      rw [bit_add hTx, hlow y (by omega)]
      simp; omega
    have ih1 := mem_allT (c := c) (E := E) x T (by omega) (fun y hy => hlow y (by omega)) U
    have ih2 := mem_allT (c := c) (E := E) x (T + 2 ^ x) (by omega) low2 U
    unfold allT
    rw [List.mem_append]
    constructor
    · rintro (h | h)
      · split at h
        · cases h
        · obtain ⟨h1, h2⟩ := ih1.1 h
          exact ⟨h1, fun y hy => h2 y (by omega)⟩
      · split at h
        · obtain ⟨h1, h2⟩ := ih2.1 h
          refine ⟨h1, fun y hy => ?_⟩
          rw [h2 y (by omega), bit_add hTx]
          simp; omega
        · cases h
    · rintro ⟨h1, h2⟩
      have hf := fullB_iff.1 h1 x (by omega)
      have hsub : ∀ y, T.testBit y = true → U.testBit y = true := fun y hy => by
        rcases Nat.lt_or_ge y (x + 1) with hl | hl
        · rw [hlow y hl] at hy; cases hy
        · rw [h2 y hl]; exact hy
      cases hb : U.testBit x
      · left
        rw [hb] at hf
        rw [if_neg]
        · refine ih1.2 ⟨h1, fun y hy => ?_⟩
          rcases (by omega : y = x ∨ x + 1 ≤ y) with rfl | hl
          · rw [hb, hTx]
          · exact h2 y hl
        · intro h0
          have h0 := eq_of_beq h0
          rw [h0, Nat.zero_and] at hf
          exact absurd hf (by decide)
      · right
        rw [hb] at hf
        have h0 : (c x &&& T == 0) = true := and_zero.2 fun y hy => by
          have := and_zero.1 hf.symm y hy
          cases ht : T.testBit y
          · rfl
          · rw [hsub y ht] at this; cases this
        rw [if_pos h0]
        refine ih2.2 ⟨h1, fun y hy => ?_⟩
        rw [bit_add hTx]
        rcases (by omega : y = x ∨ x + 1 ≤ y) with rfl | hl
        · rw [hb]; simp
        · rw [h2 y hl]
          have : decide (y = x) = false := decide_eq_false (by omega)
          rw [this, Bool.or_false]
theorem asc_allT {c : Nat → Nat} {E : Nat} : ∀ (x T : Nat), x ≤ E → (∀ y, y < x → T.testBit y = false) → (allT c E x T).Pairwise (· < ·)
  | 0, T, _, _ => by
    unfold allT
    split
    · exact List.pairwise_singleton _ _
    · exact List.Pairwise.nil
  | x + 1, T, hx, hlow => by
    have hTx := hlow x (by omega)
    have low1 : ∀ y, y < x → T.testBit y = false := fun y hy => hlow y (by omega)
    have low2 : ∀ y, y < x → (T + 2 ^ x).testBit y = false := fun y hy => by
      rw [bit_add hTx, hlow y (by omega)]
      simp; omega
    unfold allT
    rw [List.pairwise_append]
    refine ⟨?_, ?_, ?_⟩
    · split
      · exact List.Pairwise.nil
      · exact asc_allT x T (by omega) low1
    · split
      · exact asc_allT x _ (by omega) low2
      · exact List.Pairwise.nil
    · intro U hU V hV
      split at hU
      · cases hU
      · split at hV
        · obtain ⟨-, u⟩ := (mem_allT x T (by omega) low1 U).1 hU
          obtain ⟨-, v⟩ := (mem_allT x _ (by omega) low2 V).1 hV
          refine lt_of_bit x (by rw [u x (Nat.le_refl _), hTx]) (by rw [v x (Nat.le_refl _), bit_add hTx]; simp) fun j hj => ?_
          rw [u j (by omega), v j (by omega), bit_add hTx, decide_eq_false (show ¬ j = x by omega), Bool.or_false]
        · cases hV
/-- All full sets, ascending. -/
def triL (c : Nat → Nat) (E : Nat) : List Nat := allT c E E 0
theorem mem_triL {c : Nat → Nat} {E U : Nat} : U ∈ triL c E ↔ fullB c E U = true ∧ U < 2 ^ E := by
  unfold triL
  rw [mem_allT E 0 (Nat.le_refl _) (fun y _ => Nat.zero_testBit y)]
  refine ⟨fun ⟨h1, h2⟩ => ⟨h1, lt_of_bits fun y hy => by rw [h2 y hy, Nat.zero_testBit]⟩, fun ⟨h1, h2⟩ => ⟨h1, fun y hy => by rw [bits_of_lt h2 y hy, Nat.zero_testBit]⟩⟩
theorem triL_asc (c : Nat → Nat) (E : Nat) : (triL c E).Pairwise (· < ·) := asc_allT E 0 (Nat.le_refl _) (fun y _ => Nat.zero_testBit y)
/-- Edge x in the place of edge k. -/
def exch (T k x : Nat) : Nat := T - 2 ^ k + 2 ^ x
theorem exch_bit {T k x : Nat} (hk : T.testBit k = true) (hx : T.testBit x = false) (y : Nat) : (exch T k x).testBit y = if y = k then false else if y = x then true else T.testBit y := by
  have h1 : (T - 2 ^ k).testBit x = false := by rw [bit_sub hk, hx]; rfl
  unfold exch
  rw [bit_add h1, bit_sub hk]
  by_cases e : y = k
  · subst e
    have : y ≠ x := fun e => by subst e; rw [hk] at hx; cases hx
    simp [this]
  · by_cases e2 : y = x
    · subst e2; simp [e]
    · simp [e, e2]
/-- The edges that can stand in the place of edge k. -/
def fitL (c : Nat → Nat) (E T k : Nat) : List Nat := (List.range E).filter fun x => (x != k) && (!(T - 2 ^ k).testBit x && fullB c E (T - 2 ^ k + 2 ^ x))
theorem mem_fitL {c : Nat → Nat} {E T k x : Nat} (hk : T.testBit k = true) : x ∈ fitL c E T k ↔ x < E ∧ x ≠ k ∧ T.testBit x = false ∧ fullB c E (exch T k x) = true := by
  unfold fitL exch
  rw [List.mem_filter, List.mem_range, Bool.and_eq_true, Bool.and_eq_true, bit_sub hk, bne_iff_ne]
  constructor
  · rintro ⟨h1, h2, h3, h4⟩
    refine ⟨h1, h2, ?_, h4⟩
    simp [h2] at h3
    exact h3
  · rintro ⟨h1, h2, h3, h4⟩
    exact ⟨h1, h2, by rw [h3]; rfl, h4⟩
theorem fitL_nodup (c : Nat → Nat) (E T k : Nat) : (fitL c E T k).Nodup := (List.nodup_range (n := E)).filter _
/-- What a flip of edge k answers. -/
def flipP (c : Nat → Nat) (E T k : Nat) : Nat × Bool :=
  match fitL c E T k with
  | [x] => (exch T k x, true)
  | _ => (0, false)
theorem flip_yes {c : Nat → Nat} {E T k : Nat} (h : (flipP c E T k).2 = true) : ∃ x, fitL c E T k = [x] ∧ flipP c E T k = (exch T k x, true) := by
  unfold flipP at h ⊢
  split at h
  · rename_i x hx
    exact ⟨x, hx, rfl⟩
  · cases h
/-- U comes of T by an exchange of one edge. -/
def Fl (c : Nat → Nat) (E T U : Nat) : Prop := ∃ k, k < E ∧ T.testBit k = true ∧ flipP c E T k = (U, true)
theorem exch_back {T k x : Nat} (hk : T.testBit k = true) (hx : T.testBit x = false) : exch (exch T k x) x k = T := by
  have hne : x ≠ k := fun e => by subst e; rw [hk] at hx; cases hx
  have h1 : (exch T k x).testBit x = true := by rw [exch_bit hk hx]; simp [hne]
  have h2 : (exch T k x).testBit k = false := by rw [exch_bit hk hx]; simp
  refine Nat.eq_of_testBit_eq fun y => ?_
  rw [exch_bit h1 h2, exch_bit hk hx]
  by_cases e1 : y = x
  · subst e1; simp [hx]
  · by_cases e2 : y = k
    · subst e2; simp [e1, hk]
    · simp [e1, e2]
theorem exch_two {T k x y : Nat} (hk : T.testBit k = true) (hx : T.testBit x = false) (hy : T.testBit y = false) : exch (exch T k x) x y = exch T k y := by
  have hxk : x ≠ k := fun e => by subst e; rw [hk] at hx; cases hx
  have hyk : y ≠ k := fun e => by subst e; rw [hk] at hy; cases hy
  have h1 : (exch T k x).testBit x = true := by rw [exch_bit hk hx]; simp [hxk]
  have e : exch T k x - 2 ^ x = T - 2 ^ k := by unfold exch; omega
  unfold exch at e ⊢
  omega
/-- Flips go both ways. -/
theorem flip_back {c : Nat → Nat} {E T k U : Nat} (hkE : k < E) (hT : fullB c E T = true) (hk : T.testBit k = true) (h : flipP c E T k = (U, true)) :
    fullB c E U = true ∧ ∃ x, x < E ∧ x ≠ k ∧ U = exch T k x ∧ T.testBit x = false ∧ U.testBit x = true ∧ flipP c E U x = (T, true) := by
  obtain ⟨x, h1, h2⟩ := flip_yes (by rw [h])
  rw [h] at h2
  obtain ⟨rfl, -⟩ := Prod.mk.inj h2
  obtain ⟨m1, m2, m3, m4⟩ := (mem_fitL (c := c) (E := E) hk).1 (by rw [h1]; exact List.mem_singleton.2 rfl)
  have b1 : (exch T k x).testBit x = true := by rw [exch_bit hk m3]; simp [m2]
  have b2 : (exch T k x).testBit k = false := by rw [exch_bit hk m3]; simp
  refine ⟨m4, x, m1, m2, rfl, m3, b1, ?_⟩
  have hone : fitL c E (exch T k x) x = [k] := by
    have hm : k ∈ fitL c E (exch T k x) x := (mem_fitL b1).2 ⟨hkE, fun e => m2 e.symm, b2, by rw [exch_back hk m3]; exact hT⟩
    have hall : ∀ y ∈ fitL c E (exch T k x) x, y = k := fun y hy => by
      obtain ⟨y1, y2, y3, y4⟩ := (mem_fitL b1).1 hy
      refine Classical.byContradiction fun hne => ?_
      have hyT : T.testBit y = false := by
        have := exch_bit hk m3 y
        rw [y3] at this
        simp [hne, y2] at this
        exact this
      rw [exch_two hk m3 hyT] at y4
      have : y ∈ fitL c E T k := (mem_fitL hk).2 ⟨y1, hne, hyT, y4⟩
      rw [h1] at this
      exact y2 (List.mem_singleton.1 this)
    have hn := fitL_nodup c E (exch T k x) x
    generalize fitL c E (exch T k x) x = L at hm hall hn
    match L, hm, hall, hn with
    | [], hm, _, _ => cases hm
    | [z], _, hall, _ => rw [hall z List.mem_cons_self]
    | z :: w :: r, _, hall, hn =>
      have e1 := hall z List.mem_cons_self
      have e2 := hall w (List.mem_cons_of_mem _ List.mem_cons_self)
      exact absurd (by rw [e1, e2]; exact List.mem_cons_self : z ∈ w :: r) (List.nodup_cons.1 hn).1
  unfold flipP
  rw [hone]
  show (exch (exch T k x) x k, true) = _
  rw [exch_back hk m3]
theorem fl_sym {c : Nat → Nat} {E T U : Nat} (hT : fullB c E T = true) (h : Fl c E T U) : fullB c E U = true ∧ Fl c E U T ∧ U ≠ T := by
  obtain ⟨k, hk, hb, hf⟩ := h
  obtain ⟨h1, x, h2, -, -, h3, h4, h5⟩ := flip_back hk hT hb hf
  exact ⟨h1, ⟨x, h2, h4, h5⟩, fun e => by rw [e, h3] at h4; cases h4⟩
/-- A number put into an ascending list, once. -/
def addN (x : Nat) : List Nat → List Nat
  | [] => [x]
  | a :: l => if a < x then a :: addN x l else if a = x then a :: l else x :: a :: l
theorem mem_addN {x y : Nat} : ∀ {L : List Nat}, y ∈ addN x L ↔ y = x ∨ y ∈ L
  | [] => by simp [addN]
  | a :: l => by
    unfold addN
    split
    · rw [List.mem_cons, mem_addN, List.mem_cons]
      constructor
      · rintro (h | h | h) <;> simp [h]
      · rintro (h | h | h) <;> simp [h]
    · split
      · rename_i h1 h2
        subst h2
        simp
      · simp
theorem addN_asc {x : Nat} : ∀ {L : List Nat}, L.Pairwise (· < ·) → (addN x L).Pairwise (· < ·)
  | [], _ => by unfold addN; exact List.pairwise_singleton _ _
  | a :: l, h => by
    obtain ⟨h1, h2⟩ := List.pairwise_cons.1 h
    unfold addN
    split
    · rename_i hl
      refine List.pairwise_cons.2 ⟨fun y hy => ?_, addN_asc h2⟩
      rcases mem_addN.1 hy with rfl | hy
      · exact hl
      · exact h1 y hy
    · split
      · exact h
      · refine List.pairwise_cons.2 ⟨fun y hy => ?_, h⟩
        rcases List.mem_cons.1 hy with rfl | hy
        · omega
        · have := h1 y hy; omega
theorem addN_len {x : Nat} : ∀ {L : List Nat}, (addN x L).length ≤ L.length + 1
  | [] => by simp [addN]
  | a :: l => by
    have := addN_len (x := x) (L := l)
    unfold addN
    split
    · simp; omega
    · split <;> simp
/-- The results of the flips of the edges ahead of K, ascending. -/
def flipsTo (c : Nat → Nat) (E T : Nat) : Nat → List Nat
  | 0 => []
  | K + 1 => if T.testBit K = true ∧ (flipP c E T K).2 = true then addN (flipP c E T K).1 (flipsTo c E T K) else flipsTo c E T K
theorem mem_flipsTo {c : Nat → Nat} {E T U : Nat} : ∀ K, U ∈ flipsTo c E T K ↔ ∃ k, k < K ∧ T.testBit k = true ∧ flipP c E T k = (U, true)
  | 0 => by
    unfold flipsTo
    exact ⟨fun h => (by cases h), fun ⟨k, hk, _⟩ => by omega⟩
  | K + 1 => by
    have ih := mem_flipsTo (c := c) (E := E) (T := T) (U := U) K
    unfold flipsTo
    split
    · rename_i h
      rw [mem_addN, ih]
      constructor
      · rintro (rfl | ⟨k, h1, h2⟩)
        · exact ⟨K, by omega, h.1, Prod.ext rfl h.2⟩
        · exact ⟨k, by omega, h2⟩
      · rintro ⟨k, h1, h2, h3⟩
        rcases (by omega : k < K ∨ k = K) with hl | rfl
        · exact .inr ⟨k, hl, h2, h3⟩
        · exact .inl (by rw [h3])
    · rename_i h
      rw [ih]
      constructor
      · rintro ⟨k, h1, h2⟩; exact ⟨k, by omega, h2⟩
      · rintro ⟨k, h1, h2, h3⟩
        rcases (by omega : k < K ∨ k = K) with hl | rfl
        · exact ⟨k, hl, h2, h3⟩
        · exact absurd ⟨h2, by rw [h3]⟩ h
theorem flipsTo_asc (c : Nat → Nat) (E T : Nat) : ∀ K, (flipsTo c E T K).Pairwise (· < ·)
  | 0 => List.Pairwise.nil
  | K + 1 => by
    unfold flipsTo
    split
    · exact addN_asc (flipsTo_asc c E T K)
    · exact flipsTo_asc c E T K
theorem flipsTo_len (c : Nat → Nat) (E T : Nat) : ∀ K, (flipsTo c E T K).length ≤ K
  | 0 => Nat.le_refl _
  | K + 1 => by
    have := flipsTo_len c E T K
    unfold flipsTo
    split
    · exact Nat.le_trans addN_len (by omega)
    · omega
def flipsL (c : Nat → Nat) (E T : Nat) : List Nat := flipsTo c E T E
theorem mem_flipsL {c : Nat → Nat} {E T U : Nat} : U ∈ flipsL c E T ↔ Fl c E T U := mem_flipsTo E
/-- The neighbours of full sets; other sets have none. -/
def nbT (c : Nat → Nat) (E T : Nat) : List Nat := if fullB c E T = true then flipsL c E T else []
theorem nbT_sym {c : Nat → Nat} {E : Nat} (T U : Nat) (h : U ∈ nbT c E T) : T ∈ nbT c E U := by
  unfold nbT at h ⊢
  split at h
  · rename_i hT
    obtain ⟨h1, h2, -⟩ := fl_sym hT (mem_flipsL.1 h)
    rw [if_pos h1]
    exact mem_flipsL.2 h2
  · cases h
theorem fl_lt {c : Nat → Nat} {E T U : Nat} (hT : fullB c E T = true) (hl : T < 2 ^ E) (h : Fl c E T U) : U < 2 ^ E := by
  obtain ⟨k, hk, hb, hf⟩ := h
  obtain ⟨-, x, h2, -, rfl, h3, -⟩ := flip_back hk hT hb hf
  refine lt_of_bits fun y hy => ?_
  rw [exch_bit hb h3, if_neg (by omega), if_neg (by omega)]
  exact bits_of_lt hl y hy
end Go.Proofs.YtinlnafkmoabbaaGreatDoor.Sg
/- Triangulations of sorted signs (the elements behind 0 lie sorted around it): a finite check, n up to 6. Plain mathematics. -/
namespace Go.Proofs.YtinlnafkmoabbaaGreatDoor.Sg
/-- Edges cross, as four signs tell it. -/
def crG (G : Nat → Nat → Nat → Int) (n : Nat) (x y : Nat) : Bool :=
  let p := edL n x
  let q := edL n y
  !(p.1 == q.1 || (p.1 == q.2 || (p.2 == q.1 || p.2 == q.2))) && (G p.1 q.1 q.2 == -(G p.2 q.1 q.2) && G p.1 p.2 q.2 == -(G p.1 p.2 q.1))
def crC (G : Nat → Nat → Nat → Int) (n : Nat) (x : Nat) : Nat := setN (fun y => crG G n x y) (eN n)
/-- The number of an edge, its lesser element first. -/
def ixO (n i j : Nat) : Nat := i * (2 * n - 1 - i) / 2 + j - i - 1
def nodB : List Nat → Bool
  | [] => true
  | a :: l => !l.contains a && nodB l
/-- Is p within the triangle of three others? -/
def inG (G : Nat → Nat → Nat → Int) (p a b c : Nat) : Bool := G p a b == G p b c && G p a b == -(G p a c)
def exG (G : Nat → Nat → Nat → Int) (n p : Nat) : Bool := (threes n).all fun t => t.1 == p || (t.2.1 == p || (t.2.2 == p || !inG G p t.1 t.2.1 t.2.2))
def hulG (G : Nat → Nat → Nat → Int) (n : Nat) : Nat := (List.range n).countP (exG G n)
/-- A triangle of edges of a set without an element inside. -/
def triG (G : Nat → Nat → Nat → Int) (n T : Nat) (t : Nat × Nat × Nat) : Bool :=
  (T.testBit (ixO n t.1 t.2.1) && (T.testBit (ixO n t.2.1 t.2.2) && T.testBit (ixO n t.1 t.2.2))) && (List.range n).all fun p => p == t.1 || (p == t.2.1 || (p == t.2.2 || !inG G p t.1 t.2.1 t.2.2))
/-- How many edges a set has. -/
def sizE (E T : Nat) : Nat := (List.range E).countP fun x => T.testBit x
/-- U has another edge in the place of one of T. -/
def adjT (E T U : Nat) : Bool := sizE E (T ^^^ U) == 2
/-- Each but the last has a later one that differs by one edge. -/
def upL (E : Nat) : List Nat → Bool
  | [] => true
  | T :: l => (l.isEmpty || l.any (adjT E T)) && upL E l
/-- No two differ from T by an exchange of the same edge. -/
def onceL (E : Nat) (L : List Nat) : Bool := L.all fun T => nodB ((L.filter (adjT E T)).map fun U => T &&& (T ^^^ U))
/-- Signs of elements sorted around element 0: bits tell the others. -/
def g0 (b i j k : Nat) : Int := if i = 0 then 1 else if b.testBit ((k - 1) * (k - 2) * (k - 3) / 6 + (j - 1) * (j - 2) / 2 + (i - 1)) = true then 1 else -1
def gB (b x y z : Nat) : Int :=
  if x < y then (if y < z then g0 b x y z else if x < z then -(g0 b x z y) else g0 b z x y)
  else (if x < z then -(g0 b y x z) else if y < z then g0 b y z x else -(g0 b z y x))
def brkG (G : Nat → Nat → Nat → Int) (a b c d e : Nat) : Bool := (G a b c * G a d e == G a b e * G a c d) && (G a b c * G a d e == -(G a b d) * G a c e)
def posG (G : Nat → Nat → Nat → Int) (a b c d : Nat) : Bool := G a c d == -(G b c d) && (G a b d == G b c d && G a b c == -(G b c d))
def okG (G : Nat → Nat → Nat → Int) (n : Nat) : Bool :=
  ((fours n).all fun t => !posG G t.1 t.2.1 t.2.2.1 t.2.2.2) &&
  ((fours n).all fun t => (List.range n).all fun a => a == t.1 || (a == t.2.1 || (a == t.2.2.1 || (a == t.2.2.2 || !brkG G a t.1 t.2.1 t.2.2.1 t.2.2.2))))
def chkG (G : Nat → Nat → Nat → Int) (n : Nat) : Bool :=
  let L := triL (crC G n) (eN n)
  (!L.isEmpty) && ((L.all fun T => (sizE (eN n) T + 3 + hulG G n == 3 * n) && ((threes n).countP (triG G n T) + 2 + hulG G n == 2 * n)) && (upL (eN n) L && onceL (eN n) L))
theorem chk3 : ((List.range 1).all fun b => !okG (gB b) 3 || chkG (gB b) 3) = true := by decide +kernel
theorem chk4 : ((List.range 2).all fun b => !okG (gB b) 4 || chkG (gB b) 4) = true := by decide +kernel
theorem chk5 : ((List.range 16).all fun b => !okG (gB b) 5 || chkG (gB b) 5) = true := by decide +kernel
set_option maxRecDepth 100000 in
theorem chk6 : ((List.range 1024).all fun b => !okG (gB b) 6 || chkG (gB b) 6) = true := by decide +kernel
end Go.Proofs.YtinlnafkmoabbaaGreatDoor.Sg
/- Elements renamed: signs that keep the rule may be looked at with the others sorted around an extreme element. Plain mathematics. -/
namespace Go.Proofs.YtinlnafkmoabbaaGreatDoor.Sg
open HuSort
/-- Names for elements: p takes each to its element, r back. -/
structure Ren (n : Nat) (p r : Nat → Nat) : Prop where
  lt : ∀ {x}, x < n → p x < n
  lt' : ∀ {x}, x < n → r x < n
  l : ∀ {x}, x < n → r (p x) = x
  r : ∀ {x}, x < n → p (r x) = x
  out : ∀ {x}, n ≤ x → p x = x
theorem Ren.inj {n : Nat} {p r : Nat → Nat} (h : Ren n p r) {x y : Nat} (e : p x = p y) : x = y := by
  rcases Nat.lt_or_ge x n with hx | hx <;> rcases Nat.lt_or_ge y n with hy | hy
  · rw [← h.l hx, e, h.l hy]
  · have := h.lt hx
    have := h.out hy
    omega
  · have := h.lt hy
    have := h.out hx
    omega
  · rw [← h.out hx, e, h.out hy]
theorem Ren.ne {n : Nat} {p r : Nat → Nat} (h : Ren n p r) {x y : Nat} (e : x ≠ y) : p x ≠ p y := fun h2 => e (h.inj h2)
/-- Signs that keep the rule, and have no circuit of one kind. -/
structure OmA (n : Nat) (G : Nat → Nat → Nat → Int) : Prop where
  om : Om n G
  aci : ∀ {a b c d : Nat}, Dis n a b c d → ¬ Pos G a b c d
def renG (p : Nat → Nat) (G : Nat → Nat → Nat → Int) (x y z : Nat) : Int := G (p x) (p y) (p z)
theorem Ren.om {n : Nat} {p r : Nat → Nat} (h : Ren n p r) {G : Nat → Nat → Nat → Int} (hG : OmA n G) : OmA n (renG p G) := by
  refine ⟨⟨fun ha hb hc h1 h2 h3 => hG.om.one (h.lt ha) (h.lt hb) (h.lt hc) (h.ne h1) (h.ne h2) (h.ne h3), fun h1 h2 h3 => hG.om.s1 (h.ne h1) (h.ne h2) (h.ne h3), fun h1 h2 h3 => hG.om.s2 (h.ne h1) (h.ne h2) (h.ne h3), fun hd => hG.om.rule ?_⟩, fun hd hp => hG.aci (a := p _) (b := p _) (c := p _) (d := p _) ?_ hp⟩
  · unfold Dif5 at hd ⊢
    obtain ⟨a1, a2, a3, a4, a5, b1, b2, b3, b4, b5, b6, b7, b8, b9, b10⟩ := hd
    exact ⟨h.lt a1, h.lt a2, h.lt a3, h.lt a4, h.lt a5, h.ne b1, h.ne b2, h.ne b3, h.ne b4, h.ne b5, h.ne b6, h.ne b7, h.ne b8, h.ne b9, h.ne b10⟩
  · unfold Dis at hd ⊢
    obtain ⟨a1, a2, a3, a4, b1, b2, b3, b4, b5, b6⟩ := hd
    exact ⟨h.lt a1, h.lt a2, h.lt a3, h.lt a4, h.ne b1, h.ne b2, h.ne b3, h.ne b4, h.ne b5, h.ne b6⟩
/-- Names out of a list that has each element once. -/
def lp (n : Nat) (L : List Nat) (x : Nat) : Nat := if x < n then L.getD x 0 else x
def lr (n : Nat) (L : List Nat) (y : Nat) : Nat := if y < n then L.idxOf y else y
theorem ren_of {n : Nat} {L : List Nat} (hl : L.length = n) (hn : L.Nodup) (hm : ∀ x, x ∈ L ↔ x < n) : Ren n (lp n L) (lr n L) := by
  have g : ∀ x, x < n → lp n L x ∈ L := fun x hx => by
    unfold lp
    rw [if_pos hx, List.getD_eq_getElem?_getD, List.getElem?_eq_getElem (by omega)]
    exact List.getElem_mem _
  have l2 : ∀ y, y < n → L.idxOf y < n := fun y hy => by rw [← hl]; exact List.idxOf_lt_length_iff.2 ((hm y).2 hy)
  have r2 : ∀ y, y < n → L.getD (L.idxOf y) 0 = y := fun y hy => by
    have := l2 y hy
    rw [List.getD_eq_getElem?_getD, List.getElem?_eq_getElem (by omega)]
    simp
  refine ⟨fun hx => (hm _).1 (g _ hx), fun {y} hy => by unfold lr; rw [if_pos hy]; exact l2 y hy, fun {x} hx => ?_, fun {y} hy => ?_, fun {x} hx => by unfold lp; rw [if_neg (by omega)]⟩
  · have hlt := (hm _).1 (g x hx)
    unfold lr
    rw [if_pos hlt]
    unfold lp
    rw [if_pos hx, List.getD_eq_getElem?_getD, List.getElem?_eq_getElem (by omega)]
    exact List.Nodup.idxOf_getElem hn x (by omega)
  · have := l2 y hy
    unfold lr
    rw [if_pos hy]
    unfold lp
    rw [if_pos this]
    exact r2 y hy
/-- Around an extreme element the others can be sorted. -/
theorem sorted_names {n : Nat} {s : List UInt8} (h : aciB n s = true) : ∃ p r, Ren n p r ∧ ∀ i j, 0 < i → i < j → j < n → renG p (sgS n s) 0 i j = 1 := by
  obtain ⟨h3, h7⟩ := aciB_n h
  obtain ⟨e, he, hx⟩ := some_out h (List.range n) (by
    intro hc
    have := congrArg List.length hc
    simp at this
    omega)
  have he := List.mem_range.1 he
  have hp : Ext n s e := ⟨he, fun a b c ha hb hc => hx a b c (List.mem_range.2 ha) (List.mem_range.2 hb) (List.mem_range.2 hc)⟩
  obtain ⟨K, hK⟩ : ∃ K, K = (List.range n).filter (· != e) := ⟨_, rfl⟩
  have hKm : ∀ x, x ∈ K ↔ x < n ∧ x ≠ e := fun x => by rw [hK, List.mem_filter, List.mem_range, bne_iff_ne]
  have hKn : K.Nodup := by rw [hK]; exact (List.nodup_range (n := n)).filter _
  obtain ⟨bef, hbef⟩ : ∃ bef : Nat → Nat → Bool, bef = fun (a b : Nat) => decide (sgnF (lookS n s) e a b = 1) := ⟨_, rfl⟩
  have ho : Ord bef (fun x => x < n ∧ x ≠ e) := by
    constructor
    · intro a b ha hb hab
      rw [hbef]
      rcases one_or h he ha.1 hb.1 (fun e' => ha.2 e'.symm) (fun e' => hb.2 e'.symm) hab with k | k
      · exact .inl (decide_eq_true k)
      · exact .inr (decide_eq_true k)
    · intro a b c ha hb hc h1 h2 h3' k1 k2
      rw [hbef] at *
      exact decide_eq_true (ext_trans h hp ⟨he, ha.1, hb.1, hc.1, fun e' => ha.2 e'.symm, fun e' => hb.2 e'.symm, fun e' => hc.2 e'.symm, by omega, by omega, by omega⟩ (of_decide_eq_true k1) (of_decide_eq_true k2))
  have hperm := sortK_perm bef K _ (Nat.le_refl _)
  rw [List.take_length] at hperm
  have hsort := sortK_sorted ho (fun x hx => (hKm x).1 hx) hKn _ (Nat.le_refl _)
  generalize sortK bef K K.length = R at hperm hsort
  have hRn : R.Nodup := hperm.symm.nodup hKn
  have hRm : ∀ x, x ∈ R ↔ x < n ∧ x ≠ e := fun x => by rw [hperm.mem_iff]; exact hKm x
  have hLn : (e :: R).Nodup := List.nodup_cons.2 ⟨fun hm => ((hRm e).1 hm).2 rfl, hRn⟩
  have hLm : ∀ x, x ∈ e :: R ↔ x < n := fun x => by
    rw [List.mem_cons, hRm]
    constructor
    · rintro (rfl | ⟨h1, -⟩)
      · exact he
      · exact h1
    · intro h1
      by_cases h2 : x = e
      · exact .inl h2
      · exact .inr ⟨h1, h2⟩
  have hLl : (e :: R).length = n := by
    have a := nodup_sub (e :: R) (List.range n) hLn (fun x hx => List.mem_range.2 ((hLm x).1 hx))
    have b := nodup_sub (List.range n) (e :: R) List.nodup_range (fun x hx => (hLm x).2 (List.mem_range.1 hx))
    rw [List.length_range] at a b
    omega
  refine ⟨_, _, ren_of hLl hLn hLm, fun i j hi hij hj => ?_⟩
  unfold renG lp sgS
  rw [if_pos (by omega), if_pos (by omega), if_pos hj]
  obtain ⟨i, rfl⟩ : ∃ k, i = k + 1 := ⟨i - 1, by omega⟩
  obtain ⟨j, rfl⟩ : ∃ k, j = k + 1 := ⟨j - 1, by omega⟩
  simp only [List.length_cons] at hLl
  have e1 : (e :: R).getD 0 0 = e := rfl
  have e2 : (e :: R).getD (i + 1) 0 = R[i]'(by omega) := by rw [List.getD_eq_getElem?_getD, List.getElem?_cons_succ, List.getElem?_eq_getElem (by omega)]; rfl
  have e3 : (e :: R).getD (j + 1) 0 = R[j]'(by omega) := by rw [List.getD_eq_getElem?_getD, List.getElem?_cons_succ, List.getElem?_eq_getElem (by omega)]; rfl
  rw [e1, e2, e3]
  have := List.pairwise_iff_getElem.1 hsort i j (by omega) (by omega) (by omega)
  rw [hbef] at this
  exact of_decide_eq_true this
theorem omA_sgn {n : Nat} {s : List UInt8} (h : aciB n s = true) : OmA n (sgS n s) := by
  refine ⟨om_sgn h, fun {a b c d} hd hp => ?_⟩
  have := pos_any h hd
  have O := om_sgn h
  obtain ⟨w, x, y, z, e0, e1, e2, e3, -⟩ := in_bits h hd
  obtain ⟨p1, p2, p3⟩ := hp
  rw [e1, e0] at p1
  rw [e2, e0] at p2
  rw [e3, e0] at p3
  have f0 : sgnF (lookS n s) b c d = sg1 w := e0
  have f1 : sgnF (lookS n s) a c d = sg1 x := e1
  have f2 : sgnF (lookS n s) a b d = sg1 y := e2
  have f3 : sgnF (lookS n s) a b c = sg1 z := e3
  rw [posC_v f0 f1 f2 f3, pos_v] at this
  revert this p1 p2 p3
  cases w <;> cases x <;> cases y <;> cases z <;> decide
end Go.Proofs.YtinlnafkmoabbaaGreatDoor.Sg
