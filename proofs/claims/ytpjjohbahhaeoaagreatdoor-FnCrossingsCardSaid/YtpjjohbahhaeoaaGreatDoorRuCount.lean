/- How many sets leave no circuit of one kind when they are reversed: signs of at most six elements that keep the rule, all asked one after another. -/
import Derived.WalkKit
namespace Go.Proofs.YtpjjohbahhaeoaaGreatDoor.Rul
/-- Where three ascending elements stand in a code. -/
def cx (i j k : Nat) : Nat := i + j * (j - 1) / 2 + k * (k - 1) * (k - 2) / 6
def lo (a b c : Nat) : Nat := min a (min b c)
def hi (a b c : Nat) : Nat := max a (max b c)
/-- Where three elements stand, whatever their order. -/
def cxs (a b c : Nat) : Nat := cx (lo a b c) (a + b + c - lo a b c - hi a b c) (hi a b c)
abbrev C6 := Nat × Nat × Nat × Nat × Nat × Nat
def viol (v : Nat) (c : C6) : Bool := ((v.testBit c.1 ^^ v.testBit c.2.1) == (v.testBit c.2.2.1 ^^ v.testBit c.2.2.2.1)) && ((v.testBit c.1 ^^ v.testBit c.2.1) == !(v.testBit c.2.2.2.2.1 ^^ v.testBit c.2.2.2.2.2))
def six (a b c d e : Nat) : C6 := (cxs a b c, cxs a d e, cxs a b e, cxs a c d, cxs a b d, cxs a c e)
/-- The rule's conditions, each at the last place that it asks; false: a place where the sign is +. -/
def cons : List (Bool × List C6) :=
  [(false, []),
   (false, []),
   (false, []),
   (false, []),
   (false, []),
   (true, []),
   (true, []),
   (true, [(0, 7, 4, 2, 1, 5)]),
   (true, [(0, 8, 4, 3, 1, 6)]),
   (true, [(0, 9, 5, 3, 2, 6), (1, 9, 7, 3, 2, 8), (4, 9, 7, 6, 5, 8)]),
   (false, []),
   (true, []),
   (true, []),
   (true, [(0, 13, 10, 2, 1, 11)]),
   (true, [(0, 14, 10, 3, 1, 12)]),
   (true, [(0, 15, 11, 3, 2, 12), (1, 15, 13, 3, 2, 14), (10, 15, 13, 12, 11, 14)]),
   (true, [(0, 16, 10, 5, 4, 11), (1, 16, 10, 7, 4, 13), (2, 16, 11, 7, 5, 13)]),
   (true, [(0, 17, 10, 6, 4, 12), (1, 17, 10, 8, 4, 14), (3, 17, 12, 8, 6, 14)]),
   (true, [(0, 18, 11, 6, 5, 12), (2, 18, 11, 9, 5, 15), (3, 18, 12, 9, 6, 15), (4, 18, 16, 6, 5, 17), (10, 18, 16, 12, 11, 17)]),
   (true, [(1, 19, 13, 8, 7, 14), (2, 19, 13, 9, 7, 15), (3, 19, 14, 9, 8, 15), (4, 19, 16, 8, 7, 17), (5, 19, 16, 9, 7, 18), (6, 19, 17, 9, 8, 18), (10, 19, 16, 14, 13, 17), (11, 19, 16, 15, 13, 18), (12, 19, 17, 15, 14, 18)])]
/-- The same with no place laid. -/
def consF : List (Bool × List C6) := cons.map fun x => (true, x.2)
def trip : List (Nat × Nat × Nat) :=
  [(0, 1, 2), (0, 1, 3), (0, 2, 3), (1, 2, 3), (0, 1, 4), (0, 2, 4), (1, 2, 4), (0, 3, 4), (1, 3, 4), (2, 3, 4), (0, 1, 5), (0, 2, 5), (1, 2, 5), (0, 3, 5), (1, 3, 5), (2, 3, 5), (0, 4, 5), (1, 4, 5), (2, 4, 5), (3, 4, 5)]
def msk : Nat → Nat
  | 0 => 12297829382473034410
  | 1 => 14757395258967641292
  | 2 => 17361641481138401520
  | 3 => 18374966859414961920
  | 4 => 18446462603027742720
  | _ => 18446744069414584320
def full : Nat := 18446744073709551615
abbrev Q4 := Nat × Nat × Nat × Nat
/-- The sets that leave a circuit of one kind at four elements. -/
def bl (v : Nat) (q : Q4) : Nat :=
  let A := if v.testBit (cx q.2.1 q.2.2.1 q.2.2.2) then msk q.1 ^^^ full else msk q.1
  let B := if v.testBit (cx q.1 q.2.2.1 q.2.2.2) then msk q.2.1 else msk q.2.1 ^^^ full
  let C := if v.testBit (cx q.1 q.2.1 q.2.2.2) then msk q.2.2.1 ^^^ full else msk q.2.2.1
  let D := if v.testBit (cx q.1 q.2.1 q.2.2.1) then msk q.2.2.2 else msk q.2.2.2 ^^^ full
  (A &&& B &&& C &&& D) ||| ((A ^^^ full) &&& (B ^^^ full) &&& (C ^^^ full) &&& (D ^^^ full))
def quads : Nat → List Q4
  | 3 => []
  | 4 => [(0, 1, 2, 3)]
  | 5 => [(0, 1, 2, 3), (0, 1, 2, 4), (0, 1, 3, 4), (0, 2, 3, 4), (1, 2, 3, 4)]
  | _ => [(0, 1, 2, 3), (0, 1, 2, 4), (0, 1, 3, 4), (0, 2, 3, 4), (1, 2, 3, 4), (0, 1, 2, 5), (0, 1, 3, 5), (0, 2, 3, 5), (1, 2, 3, 5), (0, 1, 4, 5), (0, 2, 4, 5), (1, 2, 4, 5), (0, 3, 4, 5), (1, 3, 4, 5), (2, 3, 4, 5)]
def orAll (v : Nat) : List Q4 → Nat
  | [] => 0
  | q :: r => bl v q ||| orAll v r
def cz (w : Nat) : Nat → Nat
  | 0 => 0
  | S + 1 => cz w S + (if w.testBit S then 0 else 1)
def final (n v : Nat) : Bool := cz (orAll v (quads n)) (2 ^ n) == n * (n - 1) + 2
def go (n : Nat) : List (Bool × List C6) → Nat → Nat → Bool
  | [], _, v => final n v
  | (fr, cs) :: r, k, v => (cs.any (viol v) || go n r (k + 1) v) && (!fr || (cs.any (viol (v + 2 ^ k)) || go n r (k + 1) (v + 2 ^ k)))
theorem go3 : go 3 (consF.take 1) 0 0 = true := by decide +kernel
theorem go4 : go 4 (consF.take 4) 0 0 = true := by decide +kernel
theorem go5 : go 5 (consF.take 10) 0 0 = true := by decide +kernel
theorem go6 : go 6 cons 0 0 = true := by decide +kernel
theorem viol_mod {V k : Nat} {c : C6} (h : c.1 < k ∧ c.2.1 < k ∧ c.2.2.1 < k ∧ c.2.2.2.1 < k ∧ c.2.2.2.2.1 < k ∧ c.2.2.2.2.2 < k) : viol (V % 2 ^ k) c = viol V c := by
  obtain ⟨h1, h2, h3, h4, h5, h6⟩ := h
  unfold viol
  simp only [Nat.testBit_mod_two_pow, h1, h2, h3, h4, h5, h6, decide_true, Bool.true_and]
theorem mod_succ (V k : Nat) : V % 2 ^ (k + 1) = V % 2 ^ k + (if V.testBit k then 2 ^ k else 0) := by
  rw [Nat.mod_pow_succ, Nat.testBit_eq_decide_div_mod_eq]
  rcases Nat.mod_two_eq_zero_or_one (V / 2 ^ k) with h | h <;> rw [h] <;> simp
theorem go_sound (n V : Nat) : ∀ (L : List (Bool × List C6)) (k : Nat), go n L k (V % 2 ^ k) = true → V < 2 ^ (k + L.length) →
    (∀ (i : Nat) (x : Bool × List C6), L[i]? = some x → (x.1 = false → V.testBit (k + i) = false) ∧ ∀ c ∈ x.2, (c.1 < k + i + 1 ∧ c.2.1 < k + i + 1 ∧ c.2.2.1 < k + i + 1 ∧ c.2.2.2.1 < k + i + 1 ∧ c.2.2.2.2.1 < k + i + 1 ∧ c.2.2.2.2.2 < k + i + 1) ∧ viol V c = false) → final n V = true
  | [], k, hg, hV, _ => by
    rw [Nat.mod_eq_of_lt (by simpa using hV)] at hg
    exact hg
  | (fr, cs) :: r, k, hg, hV, hc => by
    obtain ⟨h0, h1⟩ := hc 0 (fr, cs) rfl
    have hno : cs.any (viol (V % 2 ^ (k + 1))) = false := by
      rw [List.any_eq_false]
      intro c hcm
      obtain ⟨hi, hv⟩ := h1 c hcm
      rw [viol_mod (by simpa using hi), hv]
      simp
    have hrest : go n r (k + 1) (V % 2 ^ (k + 1)) = true := by
      unfold go at hg
      rw [Bool.and_eq_true, Bool.or_eq_true, Bool.or_eq_true, Bool.or_eq_true] at hg
      rw [mod_succ] at hno ⊢
      cases hb : V.testBit k
      · rw [hb] at hno
        simp only [Bool.false_eq_true, if_false, Nat.add_zero] at hno ⊢
        rcases hg.1 with h | h
        · rw [hno] at h; cases h
        · exact h
      · rw [hb] at hno
        simp only [if_true] at hno ⊢
        rcases hg.2 with h | h | h
        · cases fr
          · have := h0 rfl
            rw [Nat.add_zero, hb] at this; cases this
          · cases h
        · rw [hno] at h; cases h
        · exact h
    refine go_sound n V r (k + 1) hrest (by rw [List.length_cons] at hV; rw [show k + 1 + r.length = k + (r.length + 1) by omega]; exact hV) fun i x hx => ?_
    have := hc (i + 1) x (by simpa using hx)
    rw [show k + (i + 1) = k + 1 + i by omega] at this
    exact this
theorem of_bits : ∀ l : List Bool, ∃ v, v < 2 ^ l.length ∧ ∀ i, i < l.length → v.testBit i = l.getD i false
  | [] => ⟨0, by simp, fun i h => by simp at h⟩
  | b :: r => by
    obtain ⟨v, hv, hb⟩ := of_bits r
    refine ⟨2 * v + b.toNat, ?_, fun i hi => ?_⟩
    · rw [List.length_cons, Nat.pow_succ]
      have := Bool.toNat_le b
      omega
    · rcases i with _ | i
      · rw [Nat.testBit_zero]
        cases b <;> simp [Nat.add_mod]
      · rw [Nat.testBit_succ]
        have : (2 * v + b.toNat) / 2 = v := by have := Bool.toNat_le b; omega
        rw [this, hb i (by simpa using hi)]
        simp
theorem all_lt {n : Nat} {p : Nat → Bool} (h : (List.range n).all p = true) {i : Nat} (hi : i < n) : p i = true := List.all_eq_true.1 h i (List.mem_range.2 hi)
theorem trip_get0 : ((List.range 6).all fun k => (List.range k).all fun j => (List.range j).all fun i => trip[cx i j k]? == some (i, j, k)) = true := by decide +kernel
theorem trip_get {i j k : Nat} (h1 : i < j) (h2 : j < k) (h3 : k < 6) : trip[cx i j k]? = some (i, j, k) := by simpa using all_lt (all_lt (all_lt trip_get0 h3) h2) h1
/-- A code for signs of three. -/
theorem of_signs (t : Nat → Nat → Nat → Bool) (m : Nat) (hm : m ≤ 20) : ∃ v, v < 2 ^ m ∧ ∀ i j k, i < j → j < k → k < 6 → cx i j k < m → v.testBit (cx i j k) = t i j k := by
  obtain ⟨v, hv, hb⟩ := of_bits ((trip.take m).map fun x => t x.1 x.2.1 x.2.2)
  have hl : trip.length = 20 := by decide
  rw [List.length_map, List.length_take, hl, Nat.min_eq_left hm] at hv hb
  refine ⟨v, hv, fun i j k h1 h2 h3 h4 => ?_⟩
  rw [hb _ h4, List.getD_eq_getElem?_getD, List.getElem?_map, List.getElem?_take_of_lt h4, trip_get h1 h2 h3]
  rfl
/-- The sign of three different elements, whatever their order, by those in order. -/
def tS (t : Nat → Nat → Nat → Bool) (a b c : Nat) : Bool := t (lo a b c) (a + b + c - lo a b c - hi a b c) (hi a b c)
def violT (t : Nat → Nat → Nat → Bool) (a b c d e : Nat) : Bool := ((tS t a b c ^^ tS t a d e) == (tS t a b e ^^ tS t a c d)) && ((tS t a b c ^^ tS t a d e) == !(tS t a b d ^^ tS t a c e))
def qn (n : Nat) : Nat := n * (n - 1) * (n - 2) / 6
theorem cx_lt0 : ((List.range 7).all fun n => (List.range n).all fun k => (List.range k).all fun j => (List.range j).all fun i => decide (cx i j k < qn n)) = true := by decide +kernel
theorem cx_lt {n i j k : Nat} (hn : n ≤ 6) (h1 : i < j) (h2 : j < k) (h3 : k < n) : cx i j k < qn n := by simpa using all_lt (all_lt (all_lt (all_lt cx_lt0 (show n < 7 by omega)) h3) h2) h1
theorem tS_code {t : Nat → Nat → Nat → Bool} {v n a b c : Nat} (hn : n ≤ 6) (hv : ∀ i j k, i < j → j < k → k < 6 → cx i j k < qn n → v.testBit (cx i j k) = t i j k) (ha : a < n) (hb : b < n) (hc : c < n) (h1 : a ≠ b) (h2 : a ≠ c) (h3 : b ≠ c) : v.testBit (cxs a b c) = tS t a b c := by
  have e1 : lo a b c < a + b + c - lo a b c - hi a b c ∧ a + b + c - lo a b c - hi a b c < hi a b c ∧ hi a b c < n := by unfold lo hi; omega
  exact hv _ _ _ e1.1 e1.2.1 (by omega) (cx_lt hn e1.1 e1.2.1 e1.2.2)
/-- Every condition asks five elements. -/
def fives (n : Nat) : List (Nat × Nat × Nat × Nat × Nat) := (List.range n).flatMap fun a => (List.range n).flatMap fun b => (List.range n).flatMap fun c => (List.range n).flatMap fun d => (List.range n).filterMap fun e => if b < c && c < d && d < e && a != b && a != c && a != d && a != e then some (a, b, c, d, e) else none
theorem cons_from0 : ((List.range 7).all fun n => (cons.take (qn n)).zipIdx.all fun x => x.1.2.all fun c => (fives n).any fun y => six y.1 y.2.1 y.2.2.1 y.2.2.2.1 y.2.2.2.2 == c) = true := by decide +kernel
theorem cons_idx0 : (cons.zipIdx.all fun x => x.1.2.all fun c => decide (c.1 < x.2 + 1) && decide (c.2.1 < x.2 + 1) && decide (c.2.2.1 < x.2 + 1) && decide (c.2.2.2.1 < x.2 + 1) && decide (c.2.2.2.2.1 < x.2 + 1) && decide (c.2.2.2.2.2 < x.2 + 1)) = true := by decide +kernel
theorem cons_from {n i : Nat} {x : Bool × List C6} {c : C6} (hn : n ≤ 6) (hx : (cons.take (qn n))[i]? = some x) (hc : c ∈ x.2) : ∃ a b c' d e, (a < n ∧ b < c' ∧ c' < d ∧ d < e ∧ e < n ∧ a ≠ b ∧ a ≠ c' ∧ a ≠ d ∧ a ≠ e) ∧ six a b c' d e = c := by
  have h := all_lt cons_from0 (show n < 7 by omega)
  simp only [List.all_eq_true] at h
  obtain ⟨hi, e⟩ := List.getElem?_eq_some_iff.1 hx
  have hm : (x, i) ∈ (cons.take (qn n)).zipIdx := by
    rw [List.mem_zipIdx_iff_getElem?]
    exact hx
  have := h (x, i) hm c hc
  rw [List.any_eq_true] at this
  obtain ⟨y, hy, he⟩ := this
  unfold fives at hy
  simp only [List.mem_flatMap, List.mem_filterMap, List.mem_range, Option.ite_none_right_eq_some, Option.some.injEq, Bool.and_eq_true, decide_eq_true_eq, bne_iff_ne, ne_eq] at hy
  obtain ⟨a, ha, b, hb, c', hc', d, hd, e', he', hh, rfl⟩ := hy
  exact ⟨a, b, c', d, e', ⟨ha, hh.1.1.1.1.1.1, hh.1.1.1.1.1.2, hh.1.1.1.1.2, he', hh.1.1.1.2, hh.1.1.2, hh.1.2, hh.2⟩, by simpa using he⟩
theorem cons_idx {i : Nat} {x : Bool × List C6} {c : C6} (hx : cons[i]? = some x) (hc : c ∈ x.2) : c.1 < i + 1 ∧ c.2.1 < i + 1 ∧ c.2.2.1 < i + 1 ∧ c.2.2.2.1 < i + 1 ∧ c.2.2.2.2.1 < i + 1 ∧ c.2.2.2.2.2 < i + 1 := by
  have h := cons_idx0
  simp only [List.all_eq_true] at h
  have := h (x, i) (List.mem_zipIdx_iff_getElem?.2 hx) c hc
  simp only [Bool.and_eq_true, decide_eq_true_eq] at this
  omega
def blkT (t : Nat → Nat → Nat → Bool) (S : Nat) (q : Q4) : Bool :=
  ((t q.2.1 q.2.2.1 q.2.2.2 ^^ S.testBit q.1) && !(t q.1 q.2.2.1 q.2.2.2 ^^ S.testBit q.2.1) && (t q.1 q.2.1 q.2.2.2 ^^ S.testBit q.2.2.1) && !(t q.1 q.2.1 q.2.2.1 ^^ S.testBit q.2.2.2)) ||
  (!(t q.2.1 q.2.2.1 q.2.2.2 ^^ S.testBit q.1) && (t q.1 q.2.2.1 q.2.2.2 ^^ S.testBit q.2.1) && !(t q.1 q.2.1 q.2.2.2 ^^ S.testBit q.2.2.1) && (t q.1 q.2.1 q.2.2.1 ^^ S.testBit q.2.2.2))
theorem msk_bit0 : ∀ x, x < 6 → ∀ S, S < 64 → (msk x).testBit S = S.testBit x := by decide +kernel
theorem full_bit0 : ∀ S, S < 64 → full.testBit S = true := by decide +kernel
theorem bl_bit {v S : Nat} {q : Q4} (hS : S < 64) (h1 : q.1 < 6) (h2 : q.2.1 < 6) (h3 : q.2.2.1 < 6) (h4 : q.2.2.2 < 6) : (bl v q).testBit S = blkT (fun i j k => v.testBit (cx i j k)) S q := by
  unfold bl blkT
  have m1 := msk_bit0 _ h1 S hS
  have m2 := msk_bit0 _ h2 S hS
  have m3 := msk_bit0 _ h3 S hS
  have m4 := msk_bit0 _ h4 S hS
  have f := full_bit0 S hS
  simp only [Nat.testBit_or, Nat.testBit_and, Nat.testBit_xor, f]
  cases v.testBit (cx q.2.1 q.2.2.1 q.2.2.2) <;> cases v.testBit (cx q.1 q.2.2.1 q.2.2.2) <;> cases v.testBit (cx q.1 q.2.1 q.2.2.2) <;> cases v.testBit (cx q.1 q.2.1 q.2.2.1) <;> simp only [if_true, if_false, Bool.false_eq_true, Nat.testBit_xor, m1, m2, m3, m4, f] <;> cases S.testBit q.1 <;> cases S.testBit q.2.1 <;> cases S.testBit q.2.2.1 <;> cases S.testBit q.2.2.2 <;> rfl
theorem quads_lt0 : ((List.range 7).all fun n => (quads n).all fun q => decide (n < 3) || (decide (q.1 < q.2.1) && decide (q.2.1 < q.2.2.1) && decide (q.2.2.1 < q.2.2.2) && decide (q.2.2.2 < n))) = true := by decide +kernel
theorem quads_lt {n : Nat} (h3 : 3 ≤ n) (h6 : n ≤ 6) {q : Q4} (hq : q ∈ quads n) : q.1 < q.2.1 ∧ q.2.1 < q.2.2.1 ∧ q.2.2.1 < q.2.2.2 ∧ q.2.2.2 < n := by
  have h := all_lt quads_lt0 (show n < 7 by omega)
  simp only [List.all_eq_true] at h
  have := h q hq
  simp only [Bool.or_eq_true, Bool.and_eq_true, decide_eq_true_eq] at this
  omega
theorem orAll_bit {v S : Nat} (hS : S < 64) : ∀ L : List Q4, (∀ q ∈ L, q.1 < 6 ∧ q.2.1 < 6 ∧ q.2.2.1 < 6 ∧ q.2.2.2 < 6) → (orAll v L).testBit S = L.any fun q => blkT (fun i j k => v.testBit (cx i j k)) S q
  | [], _ => by simp [orAll]
  | q :: r, h => by
    obtain ⟨h1, h2, h3, h4⟩ := h q (by simp)
    rw [orAll, Nat.testBit_or, bl_bit hS h1 h2 h3 h4, orAll_bit hS r (fun x hx => h x (by simp [hx])), List.any_cons]
theorem cz_eq (w : Nat) : ∀ m, cz w m = ((List.range m).filter fun S => !w.testBit S).length
  | 0 => rfl
  | m + 1 => by
    rw [cz, cz_eq w m, List.range_succ, List.filter_append, List.length_append]
    cases hb : w.testBit m <;> simp [hb]
theorem filter_congr_lt {m : Nat} {p q : Nat → Bool} (h : ∀ S, S < m → p S = q S) : ((List.range m).filter p).length = ((List.range m).filter q).length := by
  rw [List.filter_congr (fun S hS => h S (List.mem_range.1 hS))]
theorem pow_le {n : Nat} (h6 : n ≤ 6) : 2 ^ n ≤ 64 := by
  rcases (by omega : n = 0 ∨ n = 1 ∨ n = 2 ∨ n = 3 ∨ n = 4 ∨ n = 5 ∨ n = 6) with rfl | rfl | rfl | rfl | rfl | rfl | rfl <;> decide
theorem any_same : ∀ {L : List Q4} {p q : Q4 → Bool}, (∀ x ∈ L, p x = q x) → L.any p = L.any q
  | [], _, _, _ => rfl
  | x :: r, p, q, h => by rw [List.any_cons, List.any_cons, h x (by simp), any_same fun y hy => h y (by simp [hy])]
theorem blkT_code {t : Nat → Nat → Nat → Bool} {v n : Nat} (h3 : 3 ≤ n) (h6 : n ≤ 6) (hv : ∀ i j k, i < j → j < k → k < 6 → cx i j k < qn n → v.testBit (cx i j k) = t i j k) (S : Nat) : ((quads n).any fun q => blkT (fun i j k => v.testBit (cx i j k)) S q) = (quads n).any fun q => blkT t S q := by
  refine any_same fun q hq => ?_
  obtain ⟨l1, l2, l3, l4⟩ := quads_lt h3 h6 hq
  have e := fun i j k (h1 : i < j) (h2 : j < k) (h4 : k < n) => hv i j k h1 h2 (by omega) (cx_lt h6 h1 h2 h4)
  unfold blkT
  simp only []
  rw [e q.2.1 q.2.2.1 q.2.2.2 l2 l3 l4, e q.1 q.2.2.1 q.2.2.2 (by omega) l3 l4, e q.1 q.2.1 q.2.2.2 l1 (by omega) l4, e q.1 q.2.1 q.2.2.1 l1 l2 (by omega)]
/-- So many sets leave no circuit of one kind. -/
def many (n : Nat) (t : Nat → Nat → Nat → Bool) : Nat := ((List.range (2 ^ n)).filter fun S => !(quads n).any fun q => blkT t S q).length
def Keeps (n : Nat) (t : Nat → Nat → Nat → Bool) : Prop := ∀ a b c d e, a < n → b < c → c < d → d < e → e < n → a ≠ b → a ≠ c → a ≠ d → a ≠ e → violT t a b c d e = false
theorem final_many {n v : Nat} {t : Nat → Nat → Nat → Bool} (h3 : 3 ≤ n) (h6 : n ≤ 6) (hv : ∀ i j k, i < j → j < k → k < 6 → cx i j k < qn n → v.testBit (cx i j k) = t i j k) (h : final n v = true) : many n t = n * (n - 1) + 2 := by
  unfold final at h
  rw [cz_eq, beq_iff_eq] at h
  rw [← h]
  unfold many
  refine filter_congr_lt fun S hS => ?_
  have := pow_le h6
  rw [orAll_bit (by omega) _ (fun q hq => by obtain ⟨l1, l2, l3, l4⟩ := quads_lt h3 h6 hq; omega), blkT_code h3 h6 hv]
theorem viol_six {t : Nat → Nat → Nat → Bool} {v n a b c d e : Nat} (h6 : n ≤ 6) (hv : ∀ i j k, i < j → j < k → k < 6 → cx i j k < qn n → v.testBit (cx i j k) = t i j k) (ha : a < n) (h1 : b < c) (h2 : c < d) (h3 : d < e) (h4 : e < n) (n1 : a ≠ b) (n2 : a ≠ c) (n3 : a ≠ d) (n4 : a ≠ e) : viol v (six a b c d e) = violT t a b c d e := by
  have T := fun x y z (hx : x < n) (hy : y < n) (hz : z < n) (g1 : x ≠ y) (g2 : x ≠ z) (g3 : y ≠ z) => tS_code (t := t) h6 hv hx hy hz g1 g2 g3
  unfold viol violT six
  simp only []
  rw [T a b c ha (by omega) (by omega) n1 n2 (by omega), T a d e ha (by omega) h4 n3 n4 (by omega), T a b e ha (by omega) h4 n1 n4 (by omega), T a c d ha (by omega) (by omega) n2 n3 (by omega), T a b d ha (by omega) (by omega) n1 n3 (by omega), T a c e ha (by omega) h4 n2 n4 (by omega)]
theorem many_small {n : Nat} (t : Nat → Nat → Nat → Bool) (h3 : 3 ≤ n) (h6 : n ≤ 6) (hgo : go n (consF.take (qn n)) 0 0 = true) (hk : Keeps n t) : many n t = n * (n - 1) + 2 := by
  have hq : qn n ≤ 20 := by rcases (by omega : n = 3 ∨ n = 4 ∨ n = 5 ∨ n = 6) with rfl | rfl | rfl | rfl <;> decide
  obtain ⟨v, hv1, hv⟩ := of_signs t (qn n) hq
  have hcl : consF.length = 20 := by decide
  have hlen : v < 2 ^ (0 + (consF.take (qn n)).length) := by
    rw [List.length_take, hcl, Nat.min_eq_left hq, Nat.zero_add]
    exact hv1
  refine final_many h3 h6 hv (go_sound n v (consF.take (qn n)) 0 (by rw [Nat.pow_zero, Nat.mod_one]; exact hgo) hlen fun i x hx => ?_)
  unfold consF at hx
  rw [← List.map_take, List.getElem?_map] at hx
  obtain ⟨y, hy, rfl⟩ := Option.map_eq_some_iff.1 hx
  refine ⟨fun h => by simp at h, fun c hc => ?_⟩
  have hy2 : cons[i]? = some y := by
    obtain ⟨hi, e⟩ := List.getElem?_eq_some_iff.1 hy
    rw [List.getElem?_take_of_lt (by simp at hi; omega)] at hy
    exact hy
  refine ⟨by have := cons_idx hy2 hc; simpa using this, ?_⟩
  obtain ⟨a, b, c', d, e, ⟨g1, g2, g3, g4, g5, g6, g7, g8, g9⟩, rfl⟩ := cons_from h6 hy hc
  rw [viol_six h6 hv g1 g2 g3 g4 g5 g6 g7 g8 g9]
  exact hk a b c' d e g1 g2 g3 g4 g5 g6 g7 g8 g9
/-- The signs after the elements of a set are reversed. -/
def flipT (T : Nat) (t : Nat → Nat → Nat → Bool) (i j k : Nat) : Bool := t i j k ^^ (T.testBit i ^^ T.testBit j ^^ T.testBit k)
theorem three_cases (a b c : Nat) : (lo a b c = a ∧ a + b + c - lo a b c - hi a b c = b ∧ hi a b c = c) ∨ (lo a b c = a ∧ a + b + c - lo a b c - hi a b c = c ∧ hi a b c = b) ∨ (lo a b c = b ∧ a + b + c - lo a b c - hi a b c = a ∧ hi a b c = c) ∨ (lo a b c = b ∧ a + b + c - lo a b c - hi a b c = c ∧ hi a b c = a) ∨ (lo a b c = c ∧ a + b + c - lo a b c - hi a b c = a ∧ hi a b c = b) ∨ (lo a b c = c ∧ a + b + c - lo a b c - hi a b c = b ∧ hi a b c = a) := by
  unfold lo hi; omega
theorem tS_flip (T : Nat) (t : Nat → Nat → Nat → Bool) (a b c : Nat) : tS (flipT T t) a b c = (tS t a b c ^^ (T.testBit a ^^ T.testBit b ^^ T.testBit c)) := by
  unfold tS flipT
  congr 1
  rcases three_cases a b c with ⟨e1, e2, e3⟩ | ⟨e1, e2, e3⟩ | ⟨e1, e2, e3⟩ | ⟨e1, e2, e3⟩ | ⟨e1, e2, e3⟩ | ⟨e1, e2, e3⟩ <;> rw [e2, e1, e3] <;> cases T.testBit a <;> cases T.testBit b <;> cases T.testBit c <;> rfl
theorem viol_bools : ∀ x1 x2 x3 x4 x5 x6 a b c d e : Bool, ((((x1 ^^ (a ^^ b ^^ c)) ^^ (x2 ^^ (a ^^ d ^^ e))) == ((x3 ^^ (a ^^ b ^^ e)) ^^ (x4 ^^ (a ^^ c ^^ d)))) && (((x1 ^^ (a ^^ b ^^ c)) ^^ (x2 ^^ (a ^^ d ^^ e))) == !((x5 ^^ (a ^^ b ^^ d)) ^^ (x6 ^^ (a ^^ c ^^ e))))) = (((x1 ^^ x2) == (x3 ^^ x4)) && ((x1 ^^ x2) == !(x5 ^^ x6))) := by decide +kernel
theorem viol_flip (T : Nat) (t : Nat → Nat → Nat → Bool) (a b c d e : Nat) : violT (flipT T t) a b c d e = violT t a b c d e := by
  unfold violT
  simp only [tS_flip]
  exact viol_bools _ _ _ _ _ _ _ _ _ _ _
theorem keeps_flip {n T : Nat} {t : Nat → Nat → Nat → Bool} : Keeps n (flipT T t) ↔ Keeps n t := by
  unfold Keeps
  simp only [viol_flip]
theorem blk_bools : ∀ x y z u a b c d p q r s : Bool,
    ((((x ^^ (q ^^ r ^^ s)) ^^ a) && !((y ^^ (p ^^ r ^^ s)) ^^ b) && ((z ^^ (p ^^ q ^^ s)) ^^ c) && !((u ^^ (p ^^ q ^^ r)) ^^ d)) || (!((x ^^ (q ^^ r ^^ s)) ^^ a) && ((y ^^ (p ^^ r ^^ s)) ^^ b) && !((z ^^ (p ^^ q ^^ s)) ^^ c) && ((u ^^ (p ^^ q ^^ r)) ^^ d))) =
    (((x ^^ (a ^^ p)) && !(y ^^ (b ^^ q)) && (z ^^ (c ^^ r)) && !(u ^^ (d ^^ s))) || (!(x ^^ (a ^^ p)) && (y ^^ (b ^^ q)) && !(z ^^ (c ^^ r)) && (u ^^ (d ^^ s)))) := by decide +kernel
theorem blk_flip (T : Nat) (t : Nat → Nat → Nat → Bool) (S : Nat) (q : Q4) : blkT (flipT T t) S q = blkT t (S ^^^ T) q := by
  unfold blkT flipT
  simp only [Nat.testBit_xor]
  exact blk_bools _ _ _ _ _ _ _ _ _ _ _ _
theorem perm_xor : ∀ T, T < 64 → ((List.range 64).map fun S => S ^^^ T).Perm (List.range 64) := by decide +kernel
theorem many_flip {T : Nat} (hT : T < 64) (t : Nat → Nat → Nat → Bool) : many 6 (flipT T t) = many 6 t := by
  unfold many
  simp only [blk_flip]
  rw [← List.countP_eq_length_filter, ← List.countP_eq_length_filter]
  have := (perm_xor T hT).countP_eq (fun S => !(quads 6).any fun q => blkT t S q)
  rw [List.countP_map] at this
  exact this
theorem many_six (t : Nat → Nat → Nat → Bool) (hk : Keeps 6 t) : many 6 t = 6 * (6 - 1) + 2 := by
  obtain ⟨T, hT, hb⟩ := of_bits [t 0 2 3 ^^ (t 0 1 2 ^^ t 0 1 3), t 1 2 3 ^^ (t 0 1 2 ^^ t 0 1 3), t 0 1 2 ^^ ((t 0 2 3 ^^ (t 0 1 2 ^^ t 0 1 3)) ^^ (t 1 2 3 ^^ (t 0 1 2 ^^ t 0 1 3))), t 0 1 3 ^^ ((t 0 2 3 ^^ (t 0 1 2 ^^ t 0 1 3)) ^^ (t 1 2 3 ^^ (t 0 1 2 ^^ t 0 1 3))),
    t 0 1 4 ^^ ((t 0 2 3 ^^ (t 0 1 2 ^^ t 0 1 3)) ^^ (t 1 2 3 ^^ (t 0 1 2 ^^ t 0 1 3))), t 0 1 5 ^^ ((t 0 2 3 ^^ (t 0 1 2 ^^ t 0 1 3)) ^^ (t 1 2 3 ^^ (t 0 1 2 ^^ t 0 1 3)))]
  have hT : T < 64 := hT
  have b0 := hb 0 (by simp)
  have b1 := hb 1 (by simp)
  have b2 := hb 2 (by simp)
  have b3 := hb 3 (by simp)
  have b4 := hb 4 (by simp)
  have b5 := hb 5 (by simp)
  simp only [List.getD_cons_zero, List.getD_cons_succ] at b0 b1 b2 b3 b4 b5
  rw [← many_flip hT t]
  have hk' : Keeps 6 (flipT T t) := keeps_flip.2 hk
  have z0 : flipT T t 0 1 2 = false := by unfold flipT; rw [b0, b1, b2]; generalize t 0 1 2 = x; generalize t 0 1 3 = y; generalize t 0 2 3 = z; generalize t 1 2 3 = u; revert x y z u; decide
  have z1 : flipT T t 0 1 3 = false := by unfold flipT; rw [b0, b1, b3]; generalize t 0 1 2 = x; generalize t 0 1 3 = y; generalize t 0 2 3 = z; generalize t 1 2 3 = u; revert x y z u; decide
  have z2 : flipT T t 0 2 3 = false := by unfold flipT; rw [b0, b2, b3]; generalize t 0 1 2 = x; generalize t 0 1 3 = y; generalize t 0 2 3 = z; generalize t 1 2 3 = u; revert x y z u; decide
  have z3 : flipT T t 1 2 3 = false := by unfold flipT; rw [b1, b2, b3]; generalize t 0 1 2 = x; generalize t 0 1 3 = y; generalize t 0 2 3 = z; generalize t 1 2 3 = u; revert x y z u; decide
  have z4 : flipT T t 0 1 4 = false := by unfold flipT; rw [b0, b1, b4]; generalize t 0 1 2 = x; generalize t 0 1 3 = y; generalize t 0 2 3 = z; generalize t 1 2 3 = u; generalize t 0 1 4 = p; revert x y z u p; decide
  have z10 : flipT T t 0 1 5 = false := by unfold flipT; rw [b0, b1, b5]; generalize t 0 1 2 = x; generalize t 0 1 3 = y; generalize t 0 2 3 = z; generalize t 1 2 3 = u; generalize t 0 1 5 = p; revert x y z u p; decide
  generalize flipT T t = f at hk' z0 z1 z2 z3 z4 z10 ⊢
  obtain ⟨v, hv1, hv⟩ := of_signs f 20 (by omega)
  have hv' : ∀ i j k, i < j → j < k → k < 6 → cx i j k < qn 6 → v.testBit (cx i j k) = f i j k := hv
  refine final_many (by omega) (by omega) hv' (go_sound 6 v cons 0 (by rw [Nat.pow_zero, Nat.mod_one]; exact go6) hv1 fun i x hx => ?_)
  refine ⟨fun h => ?_, fun c hc => ⟨by have := cons_idx hx hc; simpa using this, ?_⟩⟩
  · have hz : i = 0 ∨ i = 1 ∨ i = 2 ∨ i = 3 ∨ i = 4 ∨ i = 10 := by
      have h0 : ((List.range 20).all fun i => (cons[i]?.all fun x => x.1) || i == 0 || i == 1 || i == 2 || i == 3 || i == 4 || i == 10) = true := by decide +kernel
      have hi : i < 20 := (List.getElem?_eq_some_iff.1 hx).1
      have := all_lt h0 hi
      rw [hx] at this
      simp only [Option.all_some, h, Bool.false_or, Bool.or_eq_true, beq_iff_eq] at this
      omega
    rw [Nat.zero_add]
    rcases hz with rfl | rfl | rfl | rfl | rfl | rfl
    · exact (hv 0 1 2 (by omega) (by omega) (by omega) (by decide)).trans z0
    · exact (hv 0 1 3 (by omega) (by omega) (by omega) (by decide)).trans z1
    · exact (hv 0 2 3 (by omega) (by omega) (by omega) (by decide)).trans z2
    · exact (hv 1 2 3 (by omega) (by omega) (by omega) (by decide)).trans z3
    · exact (hv 0 1 4 (by omega) (by omega) (by omega) (by decide)).trans z4
    · exact (hv 0 1 5 (by omega) (by omega) (by omega) (by decide)).trans z10
  · obtain ⟨a, b, c', d, e, ⟨g1, g2, g3, g4, g5, g6, g7, g8, g9⟩, rfl⟩ := cons_from (n := 6) (i := i) (by omega) (by rw [show qn 6 = 20 by decide, List.take_of_length_le (by decide)]; exact hx) hc
    rw [viol_six (n := 6) (by omega) hv' g1 g2 g3 g4 g5 g6 g7 g8 g9]
    exact hk' a b c' d e g1 g2 g3 g4 g5 g6 g7 g8 g9
/-- Signs of three to six elements that keep the rule: n (n - 1) + 2 sets leave no circuit of one kind. -/
theorem many_all {n : Nat} {t : Nat → Nat → Nat → Bool} (h3 : 3 ≤ n) (h6 : n ≤ 6) (hk : Keeps n t) : many n t = n * (n - 1) + 2 := by
  rcases (by omega : n = 3 ∨ n = 4 ∨ n = 5 ∨ n = 6) with rfl | rfl | rfl | rfl
  · exact many_small t (by omega) (by omega) go3 hk
  · exact many_small t (by omega) (by omega) go4 hk
  · exact many_small t (by omega) (by omega) go5 hk
  · exact many_six t hk
end Go.Proofs.YtpjjohbahhaeoaaGreatDoor.Rul
