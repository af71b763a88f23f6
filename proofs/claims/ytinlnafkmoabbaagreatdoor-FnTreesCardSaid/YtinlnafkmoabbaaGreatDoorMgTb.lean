/- Several texts in one: TrMatch, TrConn, TrMove, TrSame. -/
import Derived.Test.YtinlnafkmoabbaaGreatDoorMgTa
import Derived.Test.YtinlnafkmoabbaaGreatDoorMgKr
/- Sorted signs are told by bits; so what the finite check says holds of all of them. Plain mathematics. -/
namespace Go.Proofs.YtinlnafkmoabbaaGreatDoor.Sg
theorem setN_congr {q q' : Nat → Bool} : ∀ {K : Nat}, (∀ y, y < K → q y = q' y) → setN q K = setN q' K
  | 0, _ => rfl
  | K + 1, h => by
    rw [setN, setN, setN_congr (K := K) fun y hy => h y (by omega), h K (by omega)]
theorem all_congr' {α : Type} {p q : α → Bool} : ∀ {L : List α}, (∀ x ∈ L, p x = q x) → L.all p = L.all q
  | [], _ => rfl
  | a :: L, h => by rw [List.all_cons, List.all_cons, h a List.mem_cons_self, all_congr' fun x hx => h x (List.mem_cons_of_mem _ hx)]
theorem fullB_congr {c c' : Nat → Nat} {E T : Nat} (h : ∀ x, x < E → c x = c' x) : fullB c E T = fullB c' E T := by
  unfold fullB
  exact all_congr' fun x hx => by rw [h x (List.mem_range.1 hx)]
theorem allT_congr {c c' : Nat → Nat} {E : Nat} (h : ∀ x, x < E → c x = c' x) : ∀ (x T : Nat), x ≤ E → allT c E x T = allT c' E x T
  | 0, T, _ => by unfold allT; rw [fullB_congr h]
  | x + 1, T, hx => by
    unfold allT
    rw [h x (by omega), allT_congr h x T (by omega), allT_congr h x (T + 2 ^ x) (by omega)]
theorem triL_congr {c c' : Nat → Nat} {E : Nat} (h : ∀ x, x < E → c x = c' x) : triL c E = triL c' E := allT_congr h E 0 (Nat.le_refl _)
/-- The same signs of different elements. -/
def Same (n : Nat) (G H : Nat → Nat → Nat → Int) : Prop := ∀ a b c, a < n → b < n → c < n → a ≠ b → a ≠ c → b ≠ c → G a b c = H a b c
section
variable {n : Nat} {G H : Nat → Nat → Nat → Int}
theorem crG_congr (h7 : n ≤ 7) (h : Same n G H) {x y : Nat} (hx : x < eN n) (hy : y < eN n) : crG G n x y = crG H n x y := by
  obtain ⟨a1, a2⟩ := edL_lt (n := n) h7 hx
  obtain ⟨b1, b2⟩ := edL_lt (n := n) h7 hy
  unfold crG
  generalize edL n x = u at *
  generalize edL n y = v at *
  obtain ⟨a, b⟩ := u
  obtain ⟨c, d⟩ := v
  dsimp only at *
  by_cases hs : a = c ∨ a = d ∨ b = c ∨ b = d
  · have e : (a == c || (a == d || (b == c || b == d))) = true := by simpa using hs
    rw [e]; rfl
  · rw [h a c d (by omega) (by omega) (by omega) (by omega) (by omega) (by omega), h b c d (by omega) (by omega) (by omega) (by omega) (by omega) (by omega), h a b d (by omega) (by omega) (by omega) (by omega) (by omega) (by omega), h a b c (by omega) (by omega) (by omega) (by omega) (by omega) (by omega)]
theorem crC_congr (h7 : n ≤ 7) (h : Same n G H) {x : Nat} (hx : x < eN n) : crC G n x = crC H n x := setN_congr fun _y hy => crG_congr h7 h hx hy
theorem inG_congr (h : Same n G H) {p a b c : Nat} (hp : p < n) (ha : a < n) (hb : b < n) (hc : c < n) (h1 : p ≠ a) (h2 : p ≠ b) (h3 : p ≠ c) (h4 : a ≠ b) (h5 : a ≠ c) (h6 : b ≠ c) : inG G p a b c = inG H p a b c := by
  unfold inG
  rw [h p a b hp ha hb h1 h2 h4, h p b c hp hb hc h2 h3 h6, h p a c hp ha hc h1 h3 h5]
theorem out_congr (h7 : n ≤ 7) (h : Same n G H) {p : Nat} (hp : p < n) {t : Nat × Nat × Nat} (ht : t ∈ threes n) : (p == t.1 || (p == t.2.1 || (p == t.2.2 || !inG G p t.1 t.2.1 t.2.2))) = (p == t.1 || (p == t.2.1 || (p == t.2.2 || !inG H p t.1 t.2.1 t.2.2))) := by
  obtain ⟨t1, t2, t3⟩ := threes_mem h7 ht
  by_cases e1 : p = t.1
  · rw [beq_iff_eq.2 e1]; rfl
  · by_cases e2 : p = t.2.1
    · rw [beq_iff_eq.2 e2]; simp
    · by_cases e3 : p = t.2.2
      · rw [beq_iff_eq.2 e3]; simp
      · rw [inG_congr h hp (by omega) (by omega) t3 e1 e2 e3 (by omega) (by omega) (by omega)]
theorem hulG_congr (h7 : n ≤ 7) (h : Same n G H) : hulG G n = hulG H n := by
  unfold hulG
  refine List.countP_congr fun p hp => ?_
  unfold exG
  rw [all_congr' fun t ht => ?_]
  have := out_congr h7 h (List.mem_range.1 hp) ht
  rw [Bool.beq_comm (a := t.1), Bool.beq_comm (a := t.2.1), Bool.beq_comm (a := t.2.2)]
  exact this
theorem triG_congr (h7 : n ≤ 7) (h : Same n G H) (T : Nat) {t : Nat × Nat × Nat} (ht : t ∈ threes n) : triG G n T t = triG H n T t := by
  unfold triG
  rw [all_congr' fun p hp => out_congr h7 h (List.mem_range.1 hp) ht]
theorem chkG_congr (h7 : n ≤ 7) (h : Same n G H) : chkG G n = chkG H n := by
  unfold chkG
  dsimp only
  rw [triL_congr (fun x hx => crC_congr h7 h hx), hulG_congr h7 h]
  have e : ∀ T, (threes n).countP (triG G n T) = (threes n).countP (triG H n T) := fun T => List.countP_congr fun t ht => by rw [triG_congr h7 h T ht]
  simp only [e]
/-- The bits of sorted signs. -/
def tlG : List (Nat × Nat × Nat) := [(1, 2, 3), (1, 2, 4), (1, 3, 4), (2, 3, 4), (1, 2, 5), (1, 3, 5), (2, 3, 5), (1, 4, 5), (2, 4, 5), (3, 4, 5)]
def bitG (G : Nat → Nat → Nat → Int) (t : Nat) : Bool := G (tlG.getD t (0, 0, 0)).1 (tlG.getD t (0, 0, 0)).2.1 (tlG.getD t (0, 0, 0)).2.2 == 1
theorem tl_all : ((List.range 7).all fun n => (List.range n).all fun k => (List.range k).all fun j => (List.range j).all fun i => i == 0 || (decide ((k - 1) * (k - 2) * (k - 3) / 6 + (j - 1) * (j - 2) / 2 + (i - 1) < (n - 1) * (n - 2) * (n - 3) / 6) && (tlG.getD ((k - 1) * (k - 2) * (k - 3) / 6 + (j - 1) * (j - 2) / 2 + (i - 1)) (0, 0, 0) == (i, j, k)))) = true := by decide +kernel
theorem g0_match (hG : Om n G) (hs : ∀ i j, 0 < i → i < j → j < n → G 0 i j = 1) {K : Nat} (hK : (n - 1) * (n - 2) * (n - 3) / 6 ≤ K) (h6 : n ≤ 6) {i j k : Nat} (h1 : i < j) (h2 : j < k) (h3 : k < n) : g0 (setN (bitG G) K) i j k = G i j k := by
  unfold g0
  by_cases h0 : i = 0
  · subst h0
    rw [if_pos rfl, hs j k h1 h2 h3]
  · rw [if_neg h0, setN_bit]
    have hall := List.all_eq_true.1 (List.all_eq_true.1 (List.all_eq_true.1 (List.all_eq_true.1 tl_all n (List.mem_range.2 (by omega))) k (List.mem_range.2 h3)) j (List.mem_range.2 h2)) i (List.mem_range.2 h1)
    rw [beq_false_of_ne h0, Bool.false_or, Bool.and_eq_true, decide_eq_true_eq, beq_iff_eq] at hall
    obtain ⟨q1, q2⟩ := hall
    generalize (k - 1) * (k - 2) * (k - 3) / 6 + (j - 1) * (j - 2) / 2 + (i - 1) = t at q1 q2 ⊢
    have hlt : t < K ∧ bitG G t = (G i j k == 1) := ⟨Nat.lt_of_lt_of_le q1 hK, by unfold bitG; rw [q2]⟩
    obtain ⟨h4, h5⟩ := hlt
    rw [decide_eq_true h4, h5, Bool.true_and]
    obtain ⟨x, hx⟩ := hG.one (a := i) (b := j) (c := k) (by omega) (by omega) h3 (by omega) (by omega) (by omega)
    rw [hx]
    cases x <;> decide
theorem gB_match (hG : Om n G) (hs : ∀ i j, 0 < i → i < j → j < n → G 0 i j = 1) {K : Nat} (hK : (n - 1) * (n - 2) * (n - 3) / 6 ≤ K) (h6 : n ≤ 6) : Same n (gB (setN (bitG G) K)) G := by
  intro x y z hx hy hz h1 h2 h3
  have m : ∀ {i j k : Nat}, i < j → j < k → k < n → g0 (setN (bitG G) K) i j k = G i j k := fun a b c => g0_match hG hs hK h6 a b c
  have a1 := hG.s1 (a := x) (b := y) (c := z) h1 h2 h3
  have a2 := hG.s2 (a := x) (b := y) (c := z) h1 h2 h3
  have a3 := hG.s1 (a := x) (b := z) (c := y) h2 h1 h3.symm
  have a4 := hG.s2 (a := y) (b := x) (c := z) h1.symm h3 h2
  have a5 := hG.s1 (a := y) (b := z) (c := x) h3 h1.symm h2.symm
  unfold gB
  by_cases e1 : x < y
  · rw [if_pos e1]
    by_cases e2 : y < z
    · rw [if_pos e2, m e1 e2 hz]
    · rw [if_neg e2]
      by_cases e3 : x < z
      · rw [if_pos e3, m e3 (by omega) hy]; omega
      · rw [if_neg e3, m (show z < x by omega) e1 hy]; omega
  · rw [if_neg e1]
    by_cases e3 : x < z
    · rw [if_pos e3, m (show y < x by omega) e3 hz]; omega
    · rw [if_neg e3]
      by_cases e2 : y < z
      · rw [if_pos e2, m e2 (show z < x by omega) hx]; omega
      · rw [if_neg e2, m (show z < y by omega) (show y < x by omega) hx]; omega
theorem okG_of (h7 : n ≤ 7) (hG : OmA n G) (h : Same n H G) : okG H n = true := by
  unfold okG
  rw [Bool.and_eq_true, List.all_eq_true, List.all_eq_true]
  constructor
  · intro t ht
    obtain ⟨t1, t2, t3, t4⟩ := fours_mem h7 ht
    have hp := hG.aci (a := t.1) (b := t.2.1) (c := t.2.2.1) (d := t.2.2.2) (by unfold Dis; omega)
    unfold posG
    rw [h t.1 t.2.2.1 t.2.2.2 (by omega) (by omega) t4 (by omega) (by omega) (by omega), h t.2.1 t.2.2.1 t.2.2.2 (by omega) (by omega) t4 (by omega) (by omega) (by omega), h t.1 t.2.1 t.2.2.2 (by omega) (by omega) t4 (by omega) (by omega) (by omega), h t.1 t.2.1 t.2.2.1 (by omega) (by omega) (by omega) (by omega) (by omega) (by omega)]
    rw [Bool.not_eq_true', Bool.eq_false_iff]
    intro hc
    rw [Bool.and_eq_true, Bool.and_eq_true, beq_iff_eq, beq_iff_eq, beq_iff_eq] at hc
    exact hp ⟨hc.1, hc.2.1, hc.2.2⟩
  · intro t ht
    obtain ⟨t1, t2, t3, t4⟩ := fours_mem h7 ht
    rw [List.all_eq_true]
    intro a ha
    have ha := List.mem_range.1 ha
    by_cases e1 : a = t.1
    · rw [beq_iff_eq.2 e1]; rfl
    · by_cases e2 : a = t.2.1
      · rw [beq_iff_eq.2 e2]; simp
      · by_cases e3 : a = t.2.2.1
        · rw [beq_iff_eq.2 e3]; simp
        · by_cases e4 : a = t.2.2.2
          · rw [beq_iff_eq.2 e4]; simp
          · have hr := hG.om.rule (a := a) (b := t.1) (c := t.2.1) (d := t.2.2.1) (e := t.2.2.2) (by unfold Dif5; omega)
            unfold brkV at hr
            unfold brkG
            rw [h a t.1 t.2.1 ha (by omega) (by omega) e1 e2 (by omega), h a t.2.2.1 t.2.2.2 ha (by omega) t4 e3 e4 (by omega), h a t.1 t.2.2.2 ha (by omega) t4 e1 e4 (by omega), h a t.2.1 t.2.2.1 ha (by omega) (by omega) e2 e3 (by omega), h a t.1 t.2.2.1 ha (by omega) (by omega) e1 e3 (by omega), h a t.2.1 t.2.2.2 ha (by omega) t4 e2 e4 (by omega), hr]
            simp
/-- What the check says holds of all sorted signs. -/
theorem chk_sorted (h3 : 3 ≤ n) (h6 : n ≤ 6) (hG : OmA n G) (hs : ∀ i j, 0 < i → i < j → j < n → G 0 i j = 1) : chkG G n = true := by
  have key : ∀ K, (n - 1) * (n - 2) * (n - 3) / 6 ≤ K → (List.range (2 ^ K)).all (fun b => !okG (gB b) n || chkG (gB b) n) = true → chkG G n = true := fun K hK hall => by
    have hm := gB_match hG.om hs hK h6
    have h0 := List.all_eq_true.1 hall (setN (bitG G) K) (List.mem_range.2 (setN_lt _ _))
    rw [okG_of (by omega) hG hm, Bool.not_true, Bool.false_or, chkG_congr (by omega) hm] at h0
    exact h0
  rcases (by omega : n = 3 ∨ n = 4 ∨ n = 5 ∨ n = 6) with rfl | rfl | rfl | rfl
  · exact key 0 (by decide) chk3
  · exact key 1 (by decide) chk4
  · exact key 4 (by decide) chk5
  · exact key 10 (by decide) chk6
end
end Go.Proofs.YtinlnafkmoabbaaGreatDoor.Sg
/- What the check's exchanges mean: a way leads from each full set to each. Plain mathematics on sets of edges. -/
namespace Go.Proofs.YtinlnafkmoabbaaGreatDoor.Sg
theorem wk_trans {nb : Nat → List Nat} {a b : Nat} {d : Nat} (h : Wk nb a d b) : ∀ {e v : Nat}, Wk nb b e v → Wk nb a (d + e) v
  | 0, v, h2 => by
    have h2 : v = b := h2
    subst h2
    exact h
  | e + 1, v, h2 => by
    obtain ⟨u, h3, h4⟩ := h2
    exact ⟨u, wk_trans h h3, h4⟩
theorem count_one {p : Nat → Bool} {E : Nat} (h : (List.range E).countP p = 1) : ∃ k, k < E ∧ p k = true ∧ ∀ j, j < E → p j = true → j = k := by
  rw [List.countP_eq_length_filter] at h
  match hL : (List.range E).filter p, h with
  | [k], _ =>
    have hk : k ∈ (List.range E).filter p := by rw [hL]; exact List.mem_singleton.2 rfl
    rw [List.mem_filter, List.mem_range] at hk
    refine ⟨k, hk.1, hk.2, fun j hj hp => ?_⟩
    have : j ∈ (List.range E).filter p := List.mem_filter.2 ⟨List.mem_range.2 hj, hp⟩
    rw [hL] at this
    exact List.mem_singleton.1 this
theorem count_add {p q : Nat → Bool} (hd : ∀ x, p x = true → q x = false) : ∀ L : List Nat, L.countP (fun x => p x || q x) = L.countP p + L.countP q
  | [] => rfl
  | a :: L => by
    have ih := count_add hd L
    have h1 := hd a
    rw [List.countP_cons, List.countP_cons, List.countP_cons, ih]
    cases hp : p a
    · cases q a <;> simp <;> omega
    · rw [h1 hp]; simp; omega
theorem count_eqN {E k : Nat} (hk : k < E) : (List.range E).countP (fun x => decide (x = k)) = 1 := by
  obtain ⟨d, rfl⟩ : ∃ d, E = k + 1 + d := ⟨E - k - 1, by omega⟩
  rw [List.range_add, List.countP_append, List.range_succ, List.countP_append, List.countP_map]
  have e1 : (List.range k).countP (fun x => decide (x = k)) = 0 := List.countP_eq_zero.2 fun x hx => by
    have := List.mem_range.1 hx
    simp; omega
  have e2 : (List.range d).countP ((fun x => decide (x = k)) ∘ fun x => k + 1 + x) = 0 := List.countP_eq_zero.2 fun x _ => by
    show ¬ decide (k + 1 + x = k) = true
    simp; omega
  rw [e1, e2]
  simp
theorem nodB_iff : ∀ {L : List Nat}, nodB L = true ↔ L.Nodup
  | [] => by simp [nodB]
  | a :: l => by
    unfold nodB
    rw [Bool.and_eq_true, nodB_iff, List.nodup_cons, Bool.not_eq_true', List.contains_eq_mem, decide_eq_false_iff_not]
theorem nodup_map_inj {f : Nat → Nat} : ∀ {L : List Nat}, (L.map f).Nodup → ∀ x ∈ L, ∀ y ∈ L, f x = f y → x = y
  | [], _, x, hx, _, _, _ => by cases hx
  | a :: l, h, x, hx, y, hy, e => by
    rw [List.map_cons, List.nodup_cons] at h
    obtain ⟨h1, h2⟩ := h
    rcases List.mem_cons.1 hx with ex | hx'
    · rcases List.mem_cons.1 hy with ey | hy'
      · rw [ex, ey]
      · exact absurd (by rw [← ex, e]; exact List.mem_map.2 ⟨y, hy', rfl⟩) h1
    · rcases List.mem_cons.1 hy with ey | hy'
      · exact absurd (by rw [← ey, ← e]; exact List.mem_map.2 ⟨x, hx', rfl⟩) h1
      · exact nodup_map_inj h2 x hx' y hy' e
section
variable {c : Nat → Nat} {E : Nat}
/-- A flip is an exchange that is the only one of its kind. -/
theorem fl_iff {T U : Nat} : Fl c E T U ↔ ∃ k x, k < E ∧ x < E ∧ x ≠ k ∧ T.testBit k = true ∧ T.testBit x = false ∧ U = exch T k x ∧ fullB c E U = true ∧ ∀ y, y < E → y ≠ k → T.testBit y = false → fullB c E (exch T k y) = true → y = x := by
  constructor
  · rintro ⟨k, hk, hb, hf⟩
    obtain ⟨x, h1, h2⟩ := flip_yes (c := c) (E := E) (T := T) (k := k) (by rw [hf])
    rw [hf] at h2
    obtain ⟨rfl, -⟩ := Prod.mk.inj h2
    obtain ⟨m1, m2, m3, m4⟩ := (mem_fitL (c := c) (E := E) hb).1 (by rw [h1]; exact List.mem_singleton.2 rfl)
    refine ⟨k, x, hk, m1, m2, hb, m3, rfl, m4, fun y h3 h4 h5 h6 => ?_⟩
    have : y ∈ fitL c E T k := (mem_fitL hb).2 ⟨h3, h4, h5, h6⟩
    rw [h1] at this
    exact List.mem_singleton.1 this
  · rintro ⟨k, x, hk, hx, hne, hb, hbx, rfl, hf, hu⟩
    refine ⟨k, hk, hb, ?_⟩
    have hone : fitL c E T k = [x] := by
      have hm : x ∈ fitL c E T k := (mem_fitL hb).2 ⟨hx, hne, hbx, hf⟩
      have hall : ∀ y ∈ fitL c E T k, y = x := fun y hy => by
        obtain ⟨y1, y2, y3, y4⟩ := (mem_fitL hb).1 hy
        exact hu y y1 y2 y3 y4
      have hn := fitL_nodup c E T k
      generalize fitL c E T k = L at hm hall hn
      match L, hm, hall, hn with
      | [], hm, _, _ => cases hm
      | [z], _, hall, _ => rw [hall z List.mem_cons_self]
      | z :: w :: r, _, hall, hn =>
        have e1 := hall z List.mem_cons_self
        have e2 := hall w (List.mem_cons_of_mem _ List.mem_cons_self)
        exact absurd (by rw [e1, e2]; exact List.mem_cons_self : z ∈ w :: r) (List.nodup_cons.1 hn).1
    unfold flipP
    rw [hone]
/-- Of two sets of one size that differ in two edges, one has one edge in the place of another. -/
theorem adj_exch {T U : Nat} (hT : T < 2 ^ E) (hU : U < 2 ^ E) (hs : sizE E T = sizE E U) (ha : adjT E T U = true) : ∃ k x, k < E ∧ x < E ∧ x ≠ k ∧ T.testBit k = true ∧ T.testBit x = false ∧ U = exch T k x := by
  unfold adjT at ha
  have ha := eq_of_beq ha
  unfold sizE at ha hs
  have e0 : ∀ p q : Nat → Bool, (List.range E).countP p = (List.range E).countP (fun x => p x && q x) + (List.range E).countP (fun x => p x && !q x) := fun p q => by
    rw [← count_add (p := fun x => p x && q x) (q := fun x => p x && !q x) (fun x => by cases p x <;> cases q x <;> simp)]
    refine List.countP_congr fun x _ => ?_
    cases p x <;> cases q x <;> simp
  have e1 := e0 T.testBit U.testBit
  have e2 := e0 U.testBit T.testBit
  have e3 : (List.range E).countP (fun x => U.testBit x && T.testBit x) = (List.range E).countP (fun x => T.testBit x && U.testBit x) := List.countP_congr fun x _ => by rw [Bool.and_comm]
  have e4 : (List.range E).countP (fun x => (T ^^^ U).testBit x) = (List.range E).countP (fun x => T.testBit x && !U.testBit x) + (List.range E).countP (fun x => U.testBit x && !T.testBit x) := by
    rw [← count_add (p := fun x => T.testBit x && !U.testBit x) (q := fun x => U.testBit x && !T.testBit x) (fun x => by cases T.testBit x <;> cases U.testBit x <;> simp)]
    refine List.countP_congr fun x _ => ?_
    rw [Nat.testBit_xor]
    cases T.testBit x <;> cases U.testBit x <;> simp
  have e5 : (List.range E).countP (fun x => T.testBit x) = (List.range E).countP T.testBit := rfl
  have e6 : (List.range E).countP (fun x => U.testBit x) = (List.range E).countP U.testBit := rfl
  obtain ⟨k, hk, k1, k2⟩ := count_one (p := fun x => T.testBit x && !U.testBit x) (E := E) (by omega)
  obtain ⟨x, hx, x1, x2⟩ := count_one (p := fun x => U.testBit x && !T.testBit x) (E := E) (by omega)
  rw [Bool.and_eq_true, Bool.not_eq_true'] at k1 x1
  refine ⟨k, x, hk, hx, fun e => by subst e; rw [k1.1] at x1; exact absurd x1.2 (by decide), k1.1, x1.2, Nat.eq_of_testBit_eq fun y => ?_⟩
  rw [exch_bit k1.1 x1.2]
  by_cases h1 : y = k
  · subst h1; rw [if_pos rfl]; exact k1.2
  · rw [if_neg h1]
    by_cases h2 : y = x
    · subst h2; rw [if_pos rfl]; exact x1.1
    · rw [if_neg h2]
      rcases Nat.lt_or_ge y E with hy | hy
      · have a1 := k2 y hy
        have a2 := x2 y hy
        cases ht : T.testBit y <;> cases hu : U.testBit y
        · rfl
        · rw [ht, hu] at a2; exact absurd (a2 rfl) h2
        · rw [ht, hu] at a1; exact absurd (a1 rfl) h1
        · rfl
      · rw [bits_of_lt hT y hy, bits_of_lt hU y hy]
theorem exch_lt {T k x : Nat} (hT : T < 2 ^ E) (hk : k < E) (hx : x < E) (hb : T.testBit k = true) (hbx : T.testBit x = false) : exch T k x < 2 ^ E := lt_of_bits fun y hy => by
  rw [exch_bit hb hbx, if_neg (by omega), if_neg (by omega)]
  exact bits_of_lt hT y hy
theorem exch_adj {T k x : Nat} (hk : k < E) (hx : x < E) (hne : x ≠ k) (hb : T.testBit k = true) (hbx : T.testBit x = false) : adjT E T (exch T k x) = true ∧ T &&& (T ^^^ exch T k x) = 2 ^ k := by
  have hx' : ∀ y, (T ^^^ exch T k x).testBit y = (decide (y = k) || decide (y = x)) := fun y => by
    rw [Nat.testBit_xor, exch_bit hb hbx]
    by_cases h1 : y = k
    · subst h1; rw [if_pos rfl, hb]; simp
    · rw [if_neg h1]
      by_cases h2 : y = x
      · subst h2; rw [if_pos rfl, hbx]; simp
      · rw [if_neg h2]; simp [h1, h2]
  constructor
  · unfold adjT sizE
    have e : (List.range E).countP (fun y => (T ^^^ exch T k x).testBit y) = (List.range E).countP (fun y => decide (y = k) || decide (y = x)) := List.countP_congr fun y _ => by rw [hx' y]
    rw [e, count_add (p := fun y => decide (y = k)) (q := fun y => decide (y = x)) (fun y h => by simp at h ⊢; omega), count_eqN hk, count_eqN hx]
    rfl
  · refine Nat.eq_of_testBit_eq fun y => ?_
    rw [Nat.testBit_and, hx', Nat.testBit_two_pow]
    by_cases h1 : y = k
    · subst h1; rw [hb]; simp
    · by_cases h2 : y = x
      · subst h2; rw [hbx]; simp; omega
      · simp [h1, h2]; omega
theorem adj_fl (hsz : ∀ T ∈ triL c E, ∀ U ∈ triL c E, sizE E T = sizE E U) (ho : onceL E (triL c E) = true) {T U : Nat} (hT : T ∈ triL c E) (hU : U ∈ triL c E) (ha : adjT E T U = true) : Fl c E T U := by
  obtain ⟨t1, t2⟩ := mem_triL.1 hT
  obtain ⟨u1, u2⟩ := mem_triL.1 hU
  obtain ⟨k, x, hk, hx, hne, hb, hbx, rfl⟩ := adj_exch t2 u2 (hsz T hT _ hU) ha
  refine fl_iff.2 ⟨k, x, hk, hx, hne, hb, hbx, rfl, u1, fun y hy hyk hby hf => ?_⟩
  have hV : exch T k y ∈ triL c E := mem_triL.2 ⟨hf, exch_lt t2 hk hy hb hby⟩
  obtain ⟨a1, a2⟩ := exch_adj hk hy hyk hb hby
  obtain ⟨b1, b2⟩ := exch_adj hk hx hne hb hbx
  unfold onceL at ho
  have hn := nodB_iff.1 (List.all_eq_true.1 ho T hT)
  have := nodup_map_inj (f := fun U => T &&& (T ^^^ U)) hn _ (List.mem_filter.2 ⟨hV, a1⟩) _ (List.mem_filter.2 ⟨hU, b1⟩) (by rw [a2, b2])
  have h1 : (exch T k y).testBit y = true := by rw [exch_bit hb hby, if_neg hyk, if_pos rfl]
  rw [this, exch_bit hb hbx, if_neg hyk] at h1
  refine Classical.byContradiction fun hc => ?_
  rw [if_neg hc, hby] at h1
  cases h1
theorem up_last (hsz : ∀ T ∈ triL c E, ∀ U ∈ triL c E, sizE E T = sizE E U) (ho : onceL E (triL c E) = true) : ∀ L : List Nat, (∀ T ∈ L, T ∈ triL c E) → upL E L = true → ∀ z, L.getLast? = some z → ∀ T ∈ L, ∃ d, Wk (nbT c E) T d z
  | [], _, _, z, hz, _, _ => by cases hz
  | T :: l, hm, hu, z, hz, V, hV => by
    unfold upL at hu
    obtain ⟨h1, h2⟩ := Bool.and_eq_true_iff.1 hu
    cases l with
    | nil =>
      have hz : T = z := by simpa using hz
      have hV : V = T := by simpa using hV
      subst hz hV
      exact ⟨0, rfl⟩
    | cons W l =>
      have hz' : (W :: l).getLast? = some z := by rw [← hz]; simp [List.getLast?_cons_cons]
      have ih := up_last hsz ho (W :: l) (fun T hT => hm T (List.mem_cons_of_mem _ hT)) h2 z hz'
      rcases List.mem_cons.1 hV with rfl | hV
      · have h1 : (W :: l).any (adjT E V) = true := by simpa using h1
        obtain ⟨U, hU, ha⟩ := List.any_eq_true.1 h1
        obtain ⟨d, hd⟩ := ih U hU
        have hVt := hm V List.mem_cons_self
        refine ⟨d + 1, wk_cons ?_ hd⟩
        unfold nbT
        rw [if_pos (mem_triL.1 hVt).1]
        exact mem_flipsL.2 (adj_fl hsz ho hVt (hm U (List.mem_cons_of_mem _ hU)) ha)
      · exact ih V hV
/-- A way leads from each full set to each. -/
theorem conn_all (hsz : ∀ T ∈ triL c E, ∀ U ∈ triL c E, sizE E T = sizE E U) (ho : onceL E (triL c E) = true) (hu : upL E (triL c E) = true) {T U : Nat} (hT : T ∈ triL c E) (hU : U ∈ triL c E) : ∃ d, Wk (nbT c E) T d U := by
  cases hz : (triL c E).getLast? with
  | none =>
    rw [List.getLast?_eq_none_iff] at hz
    rw [hz] at hT; cases hT
  | some z =>
    obtain ⟨d, hd⟩ := up_last hsz ho _ (fun _ h => h) hu z hz T hT
    obtain ⟨e, he⟩ := up_last hsz ho _ (fun _ h => h) hu z hz U hU
    exact ⟨d + e, wk_trans hd (wk_rev (fun u v => nbT_sym u v) he)⟩
end
end Go.Proofs.YtinlnafkmoabbaaGreatDoor.Sg
/- Elements renamed: crossings, full sets, flips, triangles and extreme elements are renamed too. Plain mathematics. -/
namespace Go.Proofs.YtinlnafkmoabbaaGreatDoor.Sg
/-- The number of a renamed edge; a set of edges by new names. -/
def nmE (n : Nat) (p : Nat → Nat) (x : Nat) : Nat := ixN n (p (edL n x).1) (p (edL n x).2)
def nmT (n : Nat) (p : Nat → Nat) (T : Nat) : Nat := setN (fun y => T.testBit (nmE n p y)) (eN n)
theorem nmT_bit (n : Nat) (p : Nat → Nat) (T y : Nat) : (nmT n p T).testBit y = (decide (y < eN n) && T.testBit (nmE n p y)) := setN_bit _ _ _
theorem nmT_lt (n : Nat) (p : Nat → Nat) (T : Nat) : nmT n p T < 2 ^ eN n := setN_lt _ _
section
variable {n : Nat} {p r : Nat → Nat} (h7 : n ≤ 7) (hp : Ren n p r)
include h7 hp
theorem nmE_ed {x : Nat} (hx : x < eN n) : nmE n p x < eN n ∧ ((p (edL n x).1 < p (edL n x).2 ∧ edL n (nmE n p x) = (p (edL n x).1, p (edL n x).2)) ∨ (p (edL n x).2 < p (edL n x).1 ∧ edL n (nmE n p x) = (p (edL n x).2, p (edL n x).1))) := by
  obtain ⟨a1, a2⟩ := edL_lt (n := n) h7 hx
  have q1 := hp.lt (show (edL n x).1 < n by omega)
  have q2 := hp.lt a2
  have hne := hp.ne (show (edL n x).1 ≠ (edL n x).2 by omega)
  unfold nmE
  rcases Nat.lt_or_gt_of_ne hne with hl | hl
  · obtain ⟨e1, e2⟩ := ix_ed h7 hl q2
    exact ⟨e2, .inl ⟨hl, e1⟩⟩
  · obtain ⟨e1, e2⟩ := ix_ed h7 hl q1
    rw [ix_swap]
    exact ⟨e2, .inr ⟨hl, e1⟩⟩
theorem nmE_back {x : Nat} (hx : x < eN n) : nmE n r (nmE n p x) = x := by
  obtain ⟨a1, a2⟩ := edL_lt (n := n) h7 hx
  have e := ed_ix h7 hx
  have l1 := hp.l (show (edL n x).1 < n by omega)
  have l2 := hp.l a2
  obtain ⟨-, ⟨-, hq⟩ | ⟨-, hq⟩⟩ := nmE_ed h7 hp hx
  · show ixN n (r (edL n (nmE n p x)).1) (r (edL n (nmE n p x)).2) = x
    rw [hq, l1, l2, e]
  · show ixN n (r (edL n (nmE n p x)).1) (r (edL n (nmE n p x)).2) = x
    rw [hq, l1, l2, ix_swap, e]
end
/-- The names back again. -/
theorem Ren.back {n : Nat} {p r : Nat → Nat} (h : Ren n p r) : Ren n (fun x => if x < n then r x else x) (fun x => if x < n then p x else x) := by
  refine ⟨fun {x} hx => by rw [if_pos hx]; exact h.lt' hx, fun {x} hx => by rw [if_pos hx]; exact h.lt hx, fun {x} hx => ?_, fun {x} hx => ?_, fun {x} hx => by rw [if_neg (by omega)]⟩
  · rw [if_pos hx, if_pos (h.lt' hx)]; exact h.r hx
  · rw [if_pos hx, if_pos (h.lt hx)]; exact h.l hx
theorem nmE_eq {n : Nat} (h7 : n ≤ 7) {r : Nat → Nat} {x : Nat} (hx : x < eN n) : nmE n (fun x => if x < n then r x else x) x = nmE n r x := by
  obtain ⟨a1, a2⟩ := edL_lt (n := n) h7 hx
  unfold nmE
  dsimp only
  rw [if_pos (show (edL n x).1 < n by omega), if_pos a2]
section
variable {n : Nat} {p r : Nat → Nat} (h7 : n ≤ 7) (hp : Ren n p r)
include h7 hp
theorem nmE_lt' {x : Nat} (hx : x < eN n) : nmE n r x < eN n := by
  rw [← nmE_eq h7 hx]; exact (nmE_ed h7 hp.back hx).1
theorem nmE_fwd {x : Nat} (hx : x < eN n) : nmE n p (nmE n r x) = x := by
  have h1 := nmE_back h7 hp.back hx
  rw [nmE_eq h7 (nmE_ed h7 hp.back hx).1, nmE_eq h7 hx] at h1
  exact h1
theorem nmE_all {P : Nat → Prop} : (∀ x, x < eN n → P (nmE n p x)) ↔ ∀ x, x < eN n → P x := by
  constructor
  · intro h x hx
    rw [← nmE_fwd h7 hp hx]
    exact h _ (nmE_lt' h7 hp hx)
  · intro h x hx
    exact h _ (nmE_ed h7 hp hx).1
theorem nmT_back {T : Nat} (hT : T < 2 ^ eN n) : nmT n r (nmT n p T) = T := by
  refine Nat.eq_of_testBit_eq fun y => ?_
  rw [nmT_bit]
  rcases Nat.lt_or_ge y (eN n) with hy | hy
  · rw [decide_eq_true hy, nmT_bit, decide_eq_true (nmE_lt' h7 hp hy), nmE_fwd h7 hp hy]; rfl
  · rw [decide_eq_false (by omega), bits_of_lt hT y hy]; rfl
theorem nmT_fwd {T : Nat} (hT : T < 2 ^ eN n) : nmT n p (nmT n r T) = T := by
  refine Nat.eq_of_testBit_eq fun y => ?_
  rw [nmT_bit]
  rcases Nat.lt_or_ge y (eN n) with hy | hy
  · rw [decide_eq_true hy, nmT_bit, decide_eq_true (nmE_ed h7 hp hy).1, nmE_back h7 hp hy]; rfl
  · rw [decide_eq_false (by omega), bits_of_lt hT y hy]; rfl
end
/-- Opposite sides both ways. -/
def oG (G : Nat → Nat → Nat → Int) (a b c d : Nat) : Bool := G a c d == -(G b c d) && G a b d == -(G a b c)
section
variable {n : Nat} {G : Nat → Nat → Nat → Int}
theorem oG_s1 (hG : Om n G) {a b c d : Nat} (h1 : a ≠ b) (h2 : a ≠ c) (h3 : a ≠ d) (h4 : b ≠ c) (h5 : b ≠ d) : oG G b a c d = oG G a b c d := by
  have q1 := hG.s1 (a := a) (b := b) (c := c) h1 h2 h4
  have q2 := hG.s1 (a := a) (b := b) (c := d) h1 h3 h5
  unfold oG
  rw [Bool.eq_iff_iff, Bool.and_eq_true, Bool.and_eq_true, beq_iff_eq, beq_iff_eq, beq_iff_eq, beq_iff_eq]
  omega
theorem oG_s2 (hG : Om n G) {a b c d : Nat} (h2 : a ≠ c) (h3 : a ≠ d) (h4 : b ≠ c) (h5 : b ≠ d) (h6 : c ≠ d) : oG G a b d c = oG G a b c d := by
  have q1 := hG.s2 (a := a) (b := c) (c := d) h2 h3 h6
  have q2 := hG.s2 (a := b) (b := c) (c := d) h4 h5 h6
  unfold oG
  rw [Bool.eq_iff_iff, Bool.and_eq_true, Bool.and_eq_true, beq_iff_eq, beq_iff_eq, beq_iff_eq, beq_iff_eq]
  omega
theorem crG_is (G : Nat → Nat → Nat → Int) (n x y : Nat) : crG G n x y = (!((edL n x).1 == (edL n y).1 || ((edL n x).1 == (edL n y).2 || ((edL n x).2 == (edL n y).1 || (edL n x).2 == (edL n y).2))) && oG G (edL n x).1 (edL n x).2 (edL n y).1 (edL n y).2) := rfl
theorem crG_ren (h7 : n ≤ 7) {p r : Nat → Nat} (hp : Ren n p r) (hG : Om n G) {x y : Nat} (hx : x < eN n) (hy : y < eN n) : crG G n (nmE n p x) (nmE n p y) = crG (renG p G) n x y := by
  obtain ⟨a1, a2⟩ := edL_lt (n := n) h7 hx
  obtain ⟨b1, b2⟩ := edL_lt (n := n) h7 hy
  obtain ⟨-, hX⟩ := nmE_ed h7 hp hx
  obtain ⟨-, hY⟩ := nmE_ed h7 hp hy
  rw [crG_is, crG_is]
  generalize edL n (nmE n p x) = X at *
  generalize edL n (nmE n p y) = Y at *
  generalize edL n x = u at *
  generalize edL n y = v at *
  obtain ⟨a, b⟩ := u
  obtain ⟨c, d⟩ := v
  dsimp only at *
  have er : oG (renG p G) a b c d = oG G (p a) (p b) (p c) (p d) := rfl
  by_cases hs : a = c ∨ a = d ∨ b = c ∨ b = d
  · have e1 : (a == c || (a == d || (b == c || b == d))) = true := by simpa using hs
    have e2 : (X.1 == Y.1 || (X.1 == Y.2 || (X.2 == Y.1 || X.2 == Y.2))) = true := by
      rcases hX with ⟨-, rfl⟩ | ⟨-, rfl⟩ <;> rcases hY with ⟨-, rfl⟩ | ⟨-, rfl⟩ <;> rcases hs with rfl | rfl | rfl | rfl <;> simp
    rw [e1, e2]; rfl
  · have n1 : a ≠ c := by omega
    have n2 : a ≠ d := by omega
    have n3 : b ≠ c := by omega
    have n4 : b ≠ d := by omega
    have n5 : a ≠ b := by omega
    have n6 : c ≠ d := by omega
    have m1 := hp.ne n1
    have m2 := hp.ne n2
    have m3 := hp.ne n3
    have m4 := hp.ne n4
    have m5 := hp.ne n5
    have m6 := hp.ne n6
    have e1 : (a == c || (a == d || (b == c || b == d))) = false := by simp [n1, n2, n3, n4]
    have e2 : (X.1 == Y.1 || (X.1 == Y.2 || (X.2 == Y.1 || X.2 == Y.2))) = false := by
      rcases hX with ⟨-, rfl⟩ | ⟨-, rfl⟩ <;> rcases hY with ⟨-, rfl⟩ | ⟨-, rfl⟩ <;> simp [m1, m2, m3, m4]
    rw [e1, e2, er, Bool.not_false, Bool.true_and, Bool.true_and]
    rcases hX with ⟨-, rfl⟩ | ⟨-, rfl⟩ <;> rcases hY with ⟨-, rfl⟩ | ⟨-, rfl⟩ <;> dsimp only
    · rw [oG_s2 hG m1 m2 m3 m4 m6]
    · rw [oG_s1 hG m5 m1 m2 m3 m4]
    · rw [oG_s1 hG m5 m2 m1 m4 m3, oG_s2 hG m1 m2 m3 m4 m6]
theorem full_crG (G : Nat → Nat → Nat → Int) (n T : Nat) : fullB (crC G n) (eN n) T = true ↔ ∀ x, x < eN n → (T.testBit x = true ↔ ∀ y, y < eN n → crG G n x y = true → T.testBit y = false) := by
  rw [fullB_iff]
  have k : ∀ x, (crC G n x &&& T == 0) = true ↔ ∀ y, y < eN n → crG G n x y = true → T.testBit y = false := fun x => by
    rw [and_zero]
    unfold crC
    constructor
    · intro h y hy hc
      exact h y (by rw [setN_bit, decide_eq_true hy, hc]; rfl)
    · intro h y hy
      rw [setN_bit, Bool.and_eq_true, decide_eq_true_eq] at hy
      exact h y hy.1 hy.2
  constructor
  · intro h x hx
    rw [h x hx, k]
  · intro h x hx
    rw [Bool.eq_iff_iff, h x hx, k]
theorem full_ren (h7 : n ≤ 7) {p r : Nat → Nat} (hp : Ren n p r) (hG : Om n G) {T : Nat} : fullB (crC (renG p G) n) (eN n) (nmT n p T) = true ↔ fullB (crC G n) (eN n) T = true := by
  rw [full_crG, full_crG, ← nmE_all h7 hp (P := fun x => T.testBit x = true ↔ ∀ y, y < eN n → crG G n x y = true → T.testBit y = false)]
  constructor
  · intro h x hx
    have h1 := h x hx
    rw [nmT_bit, decide_eq_true hx, Bool.true_and] at h1
    rw [h1, ← nmE_all h7 hp (P := fun y => crG G n (nmE n p x) y = true → T.testBit y = false)]
    refine forall_congr' fun y => forall_congr' fun hy => ?_
    rw [crG_ren h7 hp hG hx hy, nmT_bit, decide_eq_true hy, Bool.true_and]
  · intro h x hx
    rw [nmT_bit, decide_eq_true hx, Bool.true_and, h x hx, ← nmE_all h7 hp (P := fun y => crG G n (nmE n p x) y = true → T.testBit y = false)]
    refine forall_congr' fun y => forall_congr' fun hy => ?_
    rw [crG_ren h7 hp hG hx hy, nmT_bit, decide_eq_true hy, Bool.true_and]
theorem exch_ren (h7 : n ≤ 7) {p r : Nat → Nat} (hp : Ren n p r) {T k x : Nat} (hk : k < eN n) (hx : x < eN n) (hb : T.testBit (nmE n p k) = true) (hbx : T.testBit (nmE n p x) = false) : nmT n p (exch T (nmE n p k) (nmE n p x)) = exch (nmT n p T) k x := by
  have b1 : (nmT n p T).testBit k = true := by rw [nmT_bit, decide_eq_true hk, hb]; rfl
  have b2 : (nmT n p T).testBit x = false := by rw [nmT_bit, hbx]; simp
  have inj : ∀ {u v}, u < eN n → v < eN n → nmE n p u = nmE n p v → u = v := fun hu hv e => by rw [← nmE_back h7 hp hu, e, nmE_back h7 hp hv]
  refine Nat.eq_of_testBit_eq fun y => ?_
  rw [nmT_bit, exch_bit hb hbx, exch_bit b1 b2]
  rcases Nat.lt_or_ge y (eN n) with hy | hy
  · rw [decide_eq_true hy, Bool.true_and]
    by_cases e1 : y = k
    · subst e1; simp
    · rw [if_neg e1, if_neg (fun e => e1 (inj hy hk e))]
      by_cases e2 : y = x
      · subst e2; simp
      · rw [if_neg e2, if_neg (fun e => e2 (inj hy hx e)), nmT_bit, decide_eq_true hy]; rfl
  · rw [decide_eq_false (show ¬ y < eN n by omega), Bool.false_and, if_neg (show ¬ y = k by omega), if_neg (show ¬ y = x by omega), nmT_bit, decide_eq_false (show ¬ y < eN n by omega), Bool.false_and]
theorem fl_ren (h7 : n ≤ 7) {p r : Nat → Nat} (hp : Ren n p r) (hG : Om n G) {T U : Nat} (hT : T < 2 ^ eN n) (hU : U < 2 ^ eN n) (h : Fl (crC (renG p G) n) (eN n) (nmT n p T) (nmT n p U)) : Fl (crC G n) (eN n) T U := by
  obtain ⟨k, x, hk, hx, hne, hb, hbx, he, hf, hu⟩ := fl_iff.1 h
  have c1 : T.testBit (nmE n p k) = true := by
    rw [nmT_bit, Bool.and_eq_true] at hb
    exact hb.2
  have c2 : T.testBit (nmE n p x) = false := by
    rw [nmT_bit, decide_eq_true hx, Bool.true_and] at hbx
    exact hbx
  have hk' := (nmE_ed h7 hp hk).1
  have hx' := (nmE_ed h7 hp hx).1
  have hEU : U = exch T (nmE n p k) (nmE n p x) := by
    have e1 : nmT n p U = nmT n p (exch T (nmE n p k) (nmE n p x)) := by rw [he, exch_ren h7 hp hk hx c1 c2]
    rw [← nmT_back h7 hp hU, e1, nmT_back h7 hp (exch_lt hT hk' hx' c1 c2)]
  refine fl_iff.2 ⟨nmE n p k, nmE n p x, hk', hx', fun e => hne (by rw [← nmE_back h7 hp hx, e, nmE_back h7 hp hk]), c1, c2, hEU, (full_ren h7 hp hG).1 hf, fun y hy hyk hby hfy => ?_⟩
  have hy' := nmE_lt' h7 hp hy
  have hyy := nmE_fwd h7 hp hy
  have := hu (nmE n r y) hy' (fun e => hyk (by rw [← hyy, e])) (by rw [nmT_bit, hyy, hby]; simp) (by
    rw [← exch_ren h7 hp hk hy' c1 (by rw [hyy]; exact hby), hyy]
    exact (full_ren h7 hp hG).2 hfy)
  rw [← hyy, this]
theorem wk_lt {c : Nat → Nat} {E T : Nat} (hT : T < 2 ^ E) : ∀ {d V : Nat}, Wk (nbT c E) T d V → V < 2 ^ E
  | 0, V, h => by
    have h : V = T := h
    rw [h]; exact hT
  | d + 1, V, h => by
    obtain ⟨U, h1, h2⟩ := h
    have hU := wk_lt hT h1
    unfold nbT at h2
    split at h2
    · rename_i hf
      exact fl_lt hf hU (mem_flipsL.1 h2)
    · cases h2
theorem wk_ren (h7 : n ≤ 7) {p r : Nat → Nat} (hp : Ren n p r) (hG : Om n G) {T : Nat} (hT : T < 2 ^ eN n) : ∀ {d U : Nat}, U < 2 ^ eN n → Wk (nbT (crC (renG p G) n) (eN n)) (nmT n p T) d (nmT n p U) → Wk (nbT (crC G n) (eN n)) T d U
  | 0, U, hU, h => by
    have h : nmT n p U = nmT n p T := h
    show U = T
    rw [← nmT_back h7 hp hU, h, nmT_back h7 hp hT]
  | d + 1, U, hU, h => by
    obtain ⟨V, h1, h2⟩ := h
    unfold nbT at h2
    split at h2
    · rename_i hf
      have hVl := wk_lt (nmT_lt n p T) h1
      have hV := nmT_fwd h7 hp hVl
      rw [← hV] at h1 h2 hf
      refine ⟨nmT n r V, wk_ren h7 hp hG hT (nmT_lt n r V) h1, ?_⟩
      unfold nbT
      rw [if_pos ((full_ren h7 hp hG).1 hf)]
      exact mem_flipsL.2 (fl_ren h7 hp hG (nmT_lt n r V) hU (mem_flipsL.1 h2))
    · cases h2
end
end Go.Proofs.YtinlnafkmoabbaaGreatDoor.Sg
/- Elements renamed: as many edges, extreme elements and triangles; what the check says holds of all signs. Plain mathematics. -/
namespace Go.Proofs.YtinlnafkmoabbaaGreatDoor.Sg
theorem perm_inv {α : Type} {L : List α} {f g : α → α} (hn : L.Nodup) (hf : ∀ x ∈ L, f x ∈ L) (hg : ∀ x ∈ L, g x ∈ L) (l : ∀ x ∈ L, g (f x) = x) (r : ∀ x ∈ L, f (g x) = x) : (L.map f).Perm L := by
  have hm : (L.map f).Nodup := by
    refine List.pairwise_map.2 (List.Pairwise.imp_of_mem (fun {a b} ha hb hab e => hab ?_) hn)
    rw [← l a ha, e, l b hb]
  refine (List.perm_ext_iff_of_nodup hm hn).2 fun x => ?_
  rw [List.mem_map]
  constructor
  · rintro ⟨y, hy, rfl⟩; exact hf y hy
  · intro hx; exact ⟨g x, hg x hx, r x hx⟩
/-- Three numbers in order. -/
def srt3 (a b c : Nat) : Nat × Nat × Nat := if a < b then (if b < c then (a, b, c) else if a < c then (a, c, b) else (c, a, b)) else (if a < c then (b, a, c) else if b < c then (b, c, a) else (c, b, a))
theorem srt3_s1 {a b c : Nat} (h1 : a ≠ b) (h2 : a ≠ c) (h3 : b ≠ c) : srt3 b a c = srt3 a b c := by
  unfold srt3
  rcases Nat.lt_or_gt_of_ne h1 with k1 | k1 <;> rcases Nat.lt_or_gt_of_ne h2 with k2 | k2 <;> rcases Nat.lt_or_gt_of_ne h3 with k3 | k3 <;> simp [k1, k2, k3, Nat.lt_asymm k1, Nat.lt_asymm k2, Nat.lt_asymm k3] <;> omega
theorem srt3_s2 {a b c : Nat} (h1 : a ≠ b) (h2 : a ≠ c) (h3 : b ≠ c) : srt3 a c b = srt3 a b c := by
  unfold srt3
  rcases Nat.lt_or_gt_of_ne h1 with k1 | k1 <;> rcases Nat.lt_or_gt_of_ne h2 with k2 | k2 <;> rcases Nat.lt_or_gt_of_ne h3 with k3 | k3 <;> simp [k1, k2, k3, Nat.lt_asymm k1, Nat.lt_asymm k2, Nat.lt_asymm k3] <;> omega
theorem srt3_in {n a b c : Nat} (h7 : n ≤ 7) (ha : a < n) (hb : b < n) (hc : c < n) (h1 : a ≠ b) (h2 : a ≠ c) (h3 : b ≠ c) : srt3 a b c ∈ threes n := by
  unfold srt3
  rcases Nat.lt_or_gt_of_ne h1 with k1 | k1
  · rw [if_pos k1]
    rcases Nat.lt_or_gt_of_ne h3 with k3 | k3
    · rw [if_pos k3]; exact threes_in h7 k1 k3 hc
    · rw [if_neg (Nat.lt_asymm k3)]
      rcases Nat.lt_or_gt_of_ne h2 with k2 | k2
      · rw [if_pos k2]; exact threes_in h7 k2 k3 hb
      · rw [if_neg (Nat.lt_asymm k2)]; exact threes_in h7 k2 k1 hb
  · rw [if_neg (Nat.lt_asymm k1)]
    rcases Nat.lt_or_gt_of_ne h2 with k2 | k2
    · rw [if_pos k2]; exact threes_in h7 k1 k2 hc
    · rw [if_neg (Nat.lt_asymm k2)]
      rcases Nat.lt_or_gt_of_ne h3 with k3 | k3
      · rw [if_pos k3]; exact threes_in h7 k3 k2 ha
      · rw [if_neg (Nat.lt_asymm k3)]; exact threes_in h7 k3 k1 ha
theorem srt3_lift {β : Type} {P : Nat → Nat → Nat → β} (s1 : ∀ a b c, a ≠ b → a ≠ c → b ≠ c → P b a c = P a b c) (s2 : ∀ a b c, a ≠ b → a ≠ c → b ≠ c → P a c b = P a b c) {a b c : Nat} (h1 : a ≠ b) (h2 : a ≠ c) (h3 : b ≠ c) : P (srt3 a b c).1 (srt3 a b c).2.1 (srt3 a b c).2.2 = P a b c := by
  unfold srt3
  rcases Nat.lt_or_gt_of_ne h1 with k1 | k1
  · rw [if_pos k1]
    rcases Nat.lt_or_gt_of_ne h3 with k3 | k3
    · rw [if_pos k3]
    · rw [if_neg (Nat.lt_asymm k3)]
      rcases Nat.lt_or_gt_of_ne h2 with k2 | k2
      · rw [if_pos k2]; exact s2 a b c h1 h2 h3
      · rw [if_neg (Nat.lt_asymm k2)]
        exact (s1 a c b h2 h1 h3.symm).trans (s2 a b c h1 h2 h3)
  · rw [if_neg (Nat.lt_asymm k1)]
    rcases Nat.lt_or_gt_of_ne h2 with k2 | k2
    · rw [if_pos k2]; exact s1 a b c h1 h2 h3
    · rw [if_neg (Nat.lt_asymm k2)]
      rcases Nat.lt_or_gt_of_ne h3 with k3 | k3
      · rw [if_pos k3]
        exact (s2 b a c h1.symm h3 h2).trans (s1 a b c h1 h2 h3)
      · rw [if_neg (Nat.lt_asymm k3)]
        exact (s1 b c a h3 h1.symm h2.symm).trans ((s2 b a c h1.symm h3 h2).trans (s1 a b c h1 h2 h3))
theorem srt3_liftN {β : Type} {n : Nat} {P : Nat → Nat → Nat → β} (s1 : ∀ a b c, a < n → b < n → c < n → a ≠ b → a ≠ c → b ≠ c → P b a c = P a b c) (s2 : ∀ a b c, a < n → b < n → c < n → a ≠ b → a ≠ c → b ≠ c → P a c b = P a b c) {a b c : Nat} (ha : a < n) (hb : b < n) (hc : c < n) (h1 : a ≠ b) (h2 : a ≠ c) (h3 : b ≠ c) : P (srt3 a b c).1 (srt3 a b c).2.1 (srt3 a b c).2.2 = P a b c := by
  unfold srt3
  rcases Nat.lt_or_gt_of_ne h1 with k1 | k1
  · rw [if_pos k1]
    rcases Nat.lt_or_gt_of_ne h3 with k3 | k3
    · rw [if_pos k3]
    · rw [if_neg (Nat.lt_asymm k3)]
      rcases Nat.lt_or_gt_of_ne h2 with k2 | k2
      · rw [if_pos k2]; exact s2 a b c ha hb hc h1 h2 h3
      · rw [if_neg (Nat.lt_asymm k2)]
        exact (s1 a c b ha hc hb h2 h1 h3.symm).trans (s2 a b c ha hb hc h1 h2 h3)
  · rw [if_neg (Nat.lt_asymm k1)]
    rcases Nat.lt_or_gt_of_ne h2 with k2 | k2
    · rw [if_pos k2]; exact s1 a b c ha hb hc h1 h2 h3
    · rw [if_neg (Nat.lt_asymm k2)]
      rcases Nat.lt_or_gt_of_ne h3 with k3 | k3
      · rw [if_pos k3]
        exact (s2 b a c hb ha hc h1.symm h3 h2).trans (s1 a b c ha hb hc h1 h2 h3)
      · rw [if_neg (Nat.lt_asymm k3)]
        exact (s1 b c a hb hc ha h3 h1.symm h2.symm).trans ((s2 b a c hb ha hc h1.symm h3 h2).trans (s1 a b c ha hb hc h1 h2 h3))
theorem srt3_self {a b c : Nat} (h1 : a < b) (h2 : b < c) : srt3 a b c = (a, b, c) := by unfold srt3; rw [if_pos h1, if_pos h2]
theorem threes_nodup : ∀ n, n < 8 → (threes n).Nodup := by decide +kernel
section
variable {n : Nat} {G : Nat → Nat → Nat → Int}
theorem inG_s1 (hG : Om n G) {q a b c : Nat} (h1 : q ≠ a) (h2 : q ≠ b) (h4 : a ≠ b) : inG G q b a c = inG G q a b c := by
  have k := hG.s2 (a := q) (b := a) (c := b) h1 h2 h4
  unfold inG
  rw [Bool.eq_iff_iff, Bool.and_eq_true, Bool.and_eq_true, beq_iff_eq, beq_iff_eq, beq_iff_eq, beq_iff_eq]
  omega
theorem inG_s2 (hG : Om n G) {q a b c : Nat} (h2 : q ≠ b) (h3 : q ≠ c) (h6 : b ≠ c) : inG G q a c b = inG G q a b c := by
  have k := hG.s2 (a := q) (b := b) (c := c) h2 h3 h6
  unfold inG
  rw [Bool.eq_iff_iff, Bool.and_eq_true, Bool.and_eq_true, beq_iff_eq, beq_iff_eq, beq_iff_eq, beq_iff_eq]
  omega
/-- q lies in no triangle of others. -/
theorem exG_iff (h7 : n ≤ 7) (hG : Om n G) (q : Nat) : exG G n q = true ↔ ∀ a b c, a < n → b < n → c < n → q ≠ a → q ≠ b → q ≠ c → a ≠ b → a ≠ c → b ≠ c → inG G q a b c = false := by
  unfold exG
  rw [List.all_eq_true]
  constructor
  · intro h a b c ha hb hc h1 h2 h3 h4 h5 h6
    have k : ∀ x y z, x < y → y < z → z < n → q ≠ x → q ≠ y → q ≠ z → inG G q x y z = false := fun x y z hxy hyz hz k1 k2 k3 => by
      have := h (x, y, z) (threes_in h7 hxy hyz hz)
      dsimp only at this
      rw [beq_false_of_ne (Ne.symm k1), beq_false_of_ne (Ne.symm k2), beq_false_of_ne (Ne.symm k3)] at this
      simpa using this
    rcases Nat.lt_or_gt_of_ne h4 with k1 | k1
    · rcases Nat.lt_or_gt_of_ne h6 with k3 | k3
      · exact k a b c k1 k3 hc h1 h2 h3
      · rcases Nat.lt_or_gt_of_ne h5 with k2 | k2
        · rw [← inG_s2 hG h2 h3 h6]; exact k a c b k2 k3 hb h1 h3 h2
        · rw [← inG_s2 hG h2 h3 h6, ← inG_s1 hG h1 h3 h5]; exact k c a b k2 k1 hb h3 h1 h2
    · rcases Nat.lt_or_gt_of_ne h5 with k2 | k2
      · rw [← inG_s1 hG h1 h2 h4]; exact k b a c k1 k2 hc h2 h1 h3
      · rcases Nat.lt_or_gt_of_ne h6 with k3 | k3
        · rw [← inG_s1 hG h1 h2 h4, ← inG_s2 hG h1 h3 h5]; exact k b c a k3 k2 ha h2 h3 h1
        · rw [← inG_s1 hG h1 h2 h4, ← inG_s2 hG h1 h3 h5, ← inG_s1 hG h2 h3 h6]; exact k c b a k3 k1 ha h3 h2 h1
  · intro h t ht
    obtain ⟨t1, t2, t3⟩ := threes_mem h7 ht
    by_cases e1 : t.1 = q
    · rw [beq_iff_eq.2 e1]; rfl
    · by_cases e2 : t.2.1 = q
      · rw [beq_iff_eq.2 e2]; simp
      · by_cases e3 : t.2.2 = q
        · rw [beq_iff_eq.2 e3]; simp
        · rw [h t.1 t.2.1 t.2.2 (by omega) (by omega) t3 (Ne.symm e1) (Ne.symm e2) (Ne.symm e3) (by omega) (by omega) (by omega)]; simp
/-- No element lies within the triangle; its edges are in the set. -/
def triS (G : Nat → Nat → Nat → Int) (n T a b c : Nat) : Bool := (T.testBit (ixN n a b) && (T.testBit (ixN n b c) && T.testBit (ixN n a c))) && (List.range n).all fun q => q == a || (q == b || (q == c || !inG G q a b c))
theorem ixO_is0 : ((List.range 8).all fun n => (List.range n).all fun j => (List.range j).all fun i => ixO n i j == ixN n i j) = true := by decide +kernel
theorem ixO_is {n i j : Nat} (h7 : n ≤ 7) (h1 : i < j) (h2 : j < n) : ixO n i j = ixN n i j := by
  have h := List.all_eq_true.1 (List.all_eq_true.1 (List.all_eq_true.1 ixO_is0 n (List.mem_range.2 (by omega))) j (List.mem_range.2 h2)) i (List.mem_range.2 h1)
  exact eq_of_beq h
theorem triG_is (h7 : n ≤ 7) (T : Nat) {t : Nat × Nat × Nat} (ht : t ∈ threes n) : triG G n T t = triS G n T t.1 t.2.1 t.2.2 := by
  obtain ⟨t1, t2, t3⟩ := threes_mem h7 ht
  unfold triG triS
  rw [ixO_is h7 t1 (by omega), ixO_is h7 t2 t3, ixO_is h7 (by omega) t3]
theorem triS_iff {T a b c : Nat} : triS G n T a b c = true ↔ T.testBit (ixN n a b) = true ∧ T.testBit (ixN n b c) = true ∧ T.testBit (ixN n a c) = true ∧ ∀ q, q < n → q ≠ a → q ≠ b → q ≠ c → inG G q a b c = false := by
  unfold triS
  rw [Bool.and_eq_true, Bool.and_eq_true, Bool.and_eq_true, List.all_eq_true]
  constructor
  · rintro ⟨⟨h1, h2, h3⟩, h4⟩
    refine ⟨h1, h2, h3, fun q hq k1 k2 k3 => ?_⟩
    have := h4 q (List.mem_range.2 hq)
    rw [beq_false_of_ne k1, beq_false_of_ne k2, beq_false_of_ne k3] at this
    simpa using this
  · rintro ⟨h1, h2, h3, h4⟩
    refine ⟨⟨h1, h2, h3⟩, fun q hq => ?_⟩
    by_cases k1 : q = a
    · rw [beq_iff_eq.2 k1]; rfl
    · by_cases k2 : q = b
      · rw [beq_iff_eq.2 k2]; simp
      · by_cases k3 : q = c
        · rw [beq_iff_eq.2 k3]; simp
        · rw [h4 q (List.mem_range.1 hq) k1 k2 k3]; simp
theorem triS_s1 (hG : Om n G) (T : Nat) (a b c : Nat) (h1 : a ≠ b) (_h2 : a ≠ c) (_h3 : b ≠ c) : triS G n T b a c = triS G n T a b c := by
  rw [Bool.eq_iff_iff, triS_iff, triS_iff, ix_swap n b a]
  constructor
  · rintro ⟨k1, k2, k3, k4⟩
    exact ⟨k1, k3, k2, fun q hq e1 e2 e3 => by rw [← inG_s1 hG e1 e2 h1]; exact k4 q hq e2 e1 e3⟩
  · rintro ⟨k1, k2, k3, k4⟩
    exact ⟨k1, k3, k2, fun q hq e1 e2 e3 => by rw [inG_s1 hG e2 e1 h1]; exact k4 q hq e2 e1 e3⟩
theorem triS_s2 (hG : Om n G) (T : Nat) (a b c : Nat) (_h1 : a ≠ b) (_h2 : a ≠ c) (h3 : b ≠ c) : triS G n T a c b = triS G n T a b c := by
  rw [Bool.eq_iff_iff, triS_iff, triS_iff, ix_swap n c b]
  constructor
  · rintro ⟨k1, k2, k3, k4⟩
    exact ⟨k3, k2, k1, fun q hq e1 e2 e3 => by rw [← inG_s2 hG e2 e3 h3]; exact k4 q hq e1 e3 e2⟩
  · rintro ⟨k1, k2, k3, k4⟩
    exact ⟨k3, k2, k1, fun q hq e1 e2 e3 => by rw [inG_s2 hG e3 e2 h3]; exact k4 q hq e1 e3 e2⟩
section
variable {p r : Nat → Nat} (h7 : n ≤ 7) (hp : Ren n p r)
include h7 hp
omit hp in
theorem nmE_ix {a b : Nat} (ha : a < n) (hb : b < n) (hab : a ≠ b) : nmE n p (ixN n a b) = ixN n (p a) (p b) := by
  unfold nmE
  rcases Nat.lt_or_gt_of_ne hab with h | h
  · rw [(ix_ed h7 h hb).1]
  · rw [ix_swap n a b, (ix_ed h7 h ha).1, ix_swap]
omit hp in
theorem ix_ltE {a b : Nat} (ha : a < n) (hb : b < n) (hab : a ≠ b) : ixN n a b < eN n := by
  rcases Nat.lt_or_gt_of_ne hab with h | h
  · exact (ix_ed h7 h hb).2
  · rw [ix_swap]; exact (ix_ed h7 h ha).2
theorem triS_ren {T a b c : Nat} (ha : a < n) (hb : b < n) (hc : c < n) (h1 : a ≠ b) (h2 : a ≠ c) (h3 : b ≠ c) : triS (renG p G) n (nmT n p T) a b c = triS G n T (p a) (p b) (p c) := by
  rw [Bool.eq_iff_iff, triS_iff, triS_iff, nmT_bit, nmT_bit, nmT_bit, decide_eq_true (ix_ltE h7 ha hb h1), decide_eq_true (ix_ltE h7 hb hc h3), decide_eq_true (ix_ltE h7 ha hc h2), Bool.true_and, Bool.true_and, Bool.true_and, nmE_ix h7 ha hb h1, nmE_ix h7 hb hc h3, nmE_ix h7 ha hc h2]
  refine and_congr_right' (and_congr_right' (and_congr_right' ?_))
  constructor
  · intro h q hq e1 e2 e3
    have hr := hp.r hq
    have := h (r q) (hp.lt' hq) (fun e => e1 (by rw [← e, hr])) (fun e => e2 (by rw [← e, hr])) (fun e => e3 (by rw [← e, hr]))
    have e : inG (renG p G) (r q) a b c = inG G (p (r q)) (p a) (p b) (p c) := rfl
    rw [e, hr] at this
    exact this
  · intro h q hq e1 e2 e3
    exact h (p q) (hp.lt hq) (hp.ne e1) (hp.ne e2) (hp.ne e3)
theorem size_ren (T : Nat) : sizE (eN n) (nmT n p T) = sizE (eN n) T := by
  have hperm : ((List.range (eN n)).map (nmE n p)).Perm (List.range (eN n)) := perm_inv List.nodup_range (g := nmE n r) (fun x hx => List.mem_range.2 (nmE_ed h7 hp (List.mem_range.1 hx)).1) (fun x hx => List.mem_range.2 (nmE_lt' h7 hp (List.mem_range.1 hx))) (fun x hx => nmE_back h7 hp (List.mem_range.1 hx)) (fun x hx => nmE_fwd h7 hp (List.mem_range.1 hx))
  unfold sizE
  refine Eq.trans ?_ (hperm.countP_eq _)
  rw [List.countP_map]
  refine List.countP_congr fun x hx => ?_
  rw [nmT_bit, decide_eq_true (List.mem_range.1 hx)]
  rfl
theorem hul_ren (hG : Om n G) : hulG (renG p G) n = hulG G n := by
  have hperm : ((List.range n).map p).Perm (List.range n) := perm_inv List.nodup_range (g := r) (fun x hx => List.mem_range.2 (hp.lt (List.mem_range.1 hx))) (fun x hx => List.mem_range.2 (hp.lt' (List.mem_range.1 hx))) (fun x hx => hp.l (List.mem_range.1 hx)) (fun x hx => hp.r (List.mem_range.1 hx))
  have hG' : Om n (renG p G) := ⟨fun ha hb hc h1 h2 h3 => hG.one (hp.lt ha) (hp.lt hb) (hp.lt hc) (hp.ne h1) (hp.ne h2) (hp.ne h3), fun h1 h2 h3 => hG.s1 (hp.ne h1) (hp.ne h2) (hp.ne h3), fun h1 h2 h3 => hG.s2 (hp.ne h1) (hp.ne h2) (hp.ne h3), fun hd => hG.rule (by
    unfold Dif5 at hd ⊢
    obtain ⟨a1, a2, a3, a4, a5, b1, b2, b3, b4, b5, b6, b7, b8, b9, b10⟩ := hd
    exact ⟨hp.lt a1, hp.lt a2, hp.lt a3, hp.lt a4, hp.lt a5, hp.ne b1, hp.ne b2, hp.ne b3, hp.ne b4, hp.ne b5, hp.ne b6, hp.ne b7, hp.ne b8, hp.ne b9, hp.ne b10⟩)⟩
  unfold hulG
  refine Eq.trans ?_ (hperm.countP_eq _)
  rw [List.countP_map]
  refine List.countP_congr fun x _ => ?_
  show exG (renG p G) n x = true ↔ exG G n (p x) = true
  rw [exG_iff h7 hG', exG_iff h7 hG]
  constructor
  · intro h a b c ha hb hc k1 k2 k3 k4 k5 k6
    have ea := hp.r ha
    have eb := hp.r hb
    have ec := hp.r hc
    have := h (r a) (r b) (r c) (hp.lt' ha) (hp.lt' hb) (hp.lt' hc) (fun e => k1 (by rw [e, ea])) (fun e => k2 (by rw [e, eb])) (fun e => k3 (by rw [e, ec])) (fun e => k4 (by rw [← ea, e, eb])) (fun e => k5 (by rw [← ea, e, ec])) (fun e => k6 (by rw [← eb, e, ec]))
    have e : inG (renG p G) x (r a) (r b) (r c) = inG G (p x) (p (r a)) (p (r b)) (p (r c)) := rfl
    rw [e, ea, eb, ec] at this
    exact this
  · intro h a b c ha hb hc k1 k2 k3 k4 k5 k6
    exact h (p a) (p b) (p c) (hp.lt ha) (hp.lt hb) (hp.lt hc) (hp.ne k1) (hp.ne k2) (hp.ne k3) (hp.ne k4) (hp.ne k5) (hp.ne k6)
theorem tri_ren (hG : Om n G) (T : Nat) : (threes n).countP (triG (renG p G) n (nmT n p T)) = (threes n).countP (triG G n T) := by
  obtain ⟨f, hf⟩ : ∃ f : Nat × Nat × Nat → Nat × Nat × Nat, f = fun t => srt3 (p t.1) (p t.2.1) (p t.2.2) := ⟨_, rfl⟩
  obtain ⟨g, hg⟩ : ∃ g : Nat × Nat × Nat → Nat × Nat × Nat, g = fun t => srt3 (r t.1) (r t.2.1) (r t.2.2) := ⟨_, rfl⟩
  have rne : ∀ {x y}, x < n → y < n → x ≠ y → r x ≠ r y := fun hx hy h e => h (by rw [← hp.r hx, e, hp.r hy])
  have hperm : ((threes n).map f).Perm (threes n) := by
    refine perm_inv (g := g) (threes_nodup n (by omega)) (fun t ht => ?_) (fun t ht => ?_) (fun t ht => ?_) (fun t ht => ?_)
    all_goals obtain ⟨t1, t2, t3⟩ := threes_mem h7 ht
    · rw [hf]
      exact srt3_in h7 (hp.lt (by omega)) (hp.lt (by omega)) (hp.lt t3) (hp.ne (by omega)) (hp.ne (by omega)) (hp.ne (by omega))
    · rw [hg]
      exact srt3_in h7 (hp.lt' (by omega)) (hp.lt' (by omega)) (hp.lt' t3) (rne (by omega) (by omega) (by omega)) (rne (by omega) (by omega) (by omega)) (rne (by omega) (by omega) (by omega))
    · rw [hf, hg]
      dsimp only
      rw [srt3_liftN (n := n) (P := fun a b c => srt3 (r a) (r b) (r c)) (fun a b c ha hb hc h1 h2 h3 => srt3_s1 (rne ha hb h1) (rne ha hc h2) (rne hb hc h3)) (fun a b c ha hb hc h1 h2 h3 => srt3_s2 (rne ha hb h1) (rne ha hc h2) (rne hb hc h3)) (hp.lt (by omega)) (hp.lt (by omega)) (hp.lt t3) (hp.ne (by omega)) (hp.ne (by omega)) (hp.ne (by omega)), hp.l (by omega), hp.l (by omega), hp.l t3, srt3_self t1 t2]
    · rw [hf, hg]
      dsimp only
      rw [srt3_liftN (n := n) (P := fun a b c => srt3 (p a) (p b) (p c)) (fun a b c _ _ _ h1 h2 h3 => srt3_s1 (hp.ne h1) (hp.ne h2) (hp.ne h3)) (fun a b c _ _ _ h1 h2 h3 => srt3_s2 (hp.ne h1) (hp.ne h2) (hp.ne h3)) (hp.lt' (by omega)) (hp.lt' (by omega)) (hp.lt' t3) (rne (by omega) (by omega) (by omega)) (rne (by omega) (by omega) (by omega)) (rne (by omega) (by omega) (by omega)), hp.r (by omega), hp.r (by omega), hp.r t3, srt3_self t1 t2]
  refine Eq.trans ?_ (hperm.countP_eq _)
  rw [List.countP_map]
  refine List.countP_congr fun t ht => ?_
  obtain ⟨t1, t2, t3⟩ := threes_mem h7 ht
  have hft : f t ∈ threes n := by
    rw [hf]
    exact srt3_in h7 (hp.lt (by omega)) (hp.lt (by omega)) (hp.lt t3) (hp.ne (by omega)) (hp.ne (by omega)) (hp.ne (by omega))
  show triG (renG p G) n (nmT n p T) t = true ↔ triG G n T (f t) = true
  rw [triG_is h7 _ ht, triG_is h7 _ hft, triS_ren h7 hp (by omega) (by omega) t3 (by omega) (by omega) (by omega), hf]
  dsimp only
  rw [srt3_lift (P := triS G n T) (triS_s1 hG T) (triS_s2 hG T) (hp.ne (show t.1 ≠ t.2.1 by omega)) (hp.ne (show t.1 ≠ t.2.2 by omega)) (hp.ne (show t.2.1 ≠ t.2.2 by omega))]
end
end
/-- All triangulations have as many edges and as many empty triangles; there is one; flips connect them. -/
theorem tri_main {n : Nat} {s : List UInt8} (h : aciB n s = true) (h6 : n ≤ 6) :
    triL (crC (sgS n s) n) (eN n) ≠ [] ∧
    (∀ T ∈ triL (crC (sgS n s) n) (eN n), sizE (eN n) T + 3 + hulG (sgS n s) n = 3 * n ∧ (threes n).countP (triG (sgS n s) n T) + 2 + hulG (sgS n s) n = 2 * n) ∧
    ∀ T ∈ triL (crC (sgS n s) n) (eN n), ∀ U ∈ triL (crC (sgS n s) n) (eN n), ∃ d, Wk (nbT (crC (sgS n s) n) (eN n)) T d U := by
  obtain ⟨h3, -⟩ := aciB_n h
  have h7 : n ≤ 7 := by omega
  obtain ⟨p, r, hp, hs⟩ := sorted_names h
  have hA := omA_sgn h
  generalize sgS n s = G at *
  have hc := chk_sorted (by omega) h6 (hp.om hA) hs
  unfold chkG at hc
  dsimp only at hc
  rw [Bool.and_eq_true, Bool.and_eq_true, Bool.and_eq_true, List.all_eq_true, Bool.not_eq_true'] at hc
  obtain ⟨c1, c2, c3, c4⟩ := hc
  have mem : ∀ T, T ∈ triL (crC G n) (eN n) → nmT n p T ∈ triL (crC (renG p G) n) (eN n) := fun T hT => by
    obtain ⟨t1, t2⟩ := mem_triL.1 hT
    exact mem_triL.2 ⟨(full_ren h7 hp hA.om).2 t1, nmT_lt n p T⟩
  have val : ∀ T, T ∈ triL (crC (renG p G) n) (eN n) → sizE (eN n) T + 3 + hulG (renG p G) n = 3 * n ∧ (threes n).countP (triG (renG p G) n T) + 2 + hulG (renG p G) n = 2 * n := fun T hT => by
    have := c2 T hT
    rw [Bool.and_eq_true, beq_iff_eq, beq_iff_eq] at this
    exact this
  refine ⟨fun he => ?_, fun T hT => ?_, fun T hT U hU => ?_⟩
  · cases hL : triL (crC (renG p G) n) (eN n) with
    | nil => rw [hL] at c1; cases c1
    | cons W l =>
      have hW : W ∈ triL (crC (renG p G) n) (eN n) := by rw [hL]; exact List.mem_cons_self
      obtain ⟨w1, w2⟩ := mem_triL.1 hW
      have : nmT n r W ∈ triL (crC G n) (eN n) := mem_triL.2 ⟨(full_ren h7 hp hA.om).1 (by rw [nmT_fwd h7 hp w2]; exact w1), nmT_lt n r W⟩
      rw [he] at this
      cases this
  · obtain ⟨v1, v2⟩ := val _ (mem T hT)
    rw [size_ren h7 hp, hul_ren h7 hp hA.om] at v1
    rw [tri_ren h7 hp hA.om, hul_ren h7 hp hA.om] at v2
    exact ⟨v1, v2⟩
  · obtain ⟨d, hd⟩ := conn_all (fun T hT U hU => by have := (val T hT).1; have := (val U hU).1; omega) c4 c3 (mem T hT) (mem U hU)
    exact ⟨d, wk_ren h7 hp hA.om (mem_triL.1 hT).2 (mem_triL.1 hU).2 hd⟩
end Go.Proofs.YtinlnafkmoabbaaGreatDoor.Sg
