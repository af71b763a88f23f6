/- Several texts in one: RuElemImpl, RuSets, RuCount, RuLink, PtOpen, PtList, PtEq, PtAre, PtArg, SgPts. -/
import Derived.Test.YtfjimdmoindepaaRuElem
import Derived.Test.YtfjimdmoindepaaRuAcLaw
import Derived.WalkKit
import Derived.Test.YtfjimdmoindepaaProg
import Derived.Test.YtfjimdmoindepaaPtMath
import Derived.ProofKit
import Derived.OpenShut
import Derived.Below
import Derived.Deep.Slices
import Derived.Deep.Fields
import Derived.ChangeSame
import Derived.Lib.SmallJoins
import Derived.Test.YtfjimdmoindepaaPtTurn
import Derived.Deep.OwnRows
import Derived.Deep.QuietTactic
import Derived.BigQuiet
import Derived.RegionTactic
import Derived.OwnWalk
import Derived.Laws.MakeOwn
import Derived.Laws.Entries
import Derived.Deep.RegionHeld3
import Derived.Test.YtfjimdmoindepaaSgOthers
/- ReverseElement, as impl answers it. -/
namespace Go.Proofs.Ytfjimdmoindepaa.Sg
open Go.RowKit Pt
end Go.Proofs.Ytfjimdmoindepaa.Sg
/- AcyclicSets, as impl and spec answer it; the law. -/
namespace Go.Proofs.Ytfjimdmoindepaa.Sg
open Go.RowKit Pt NewI
theorem text3_43 (n : Nat) (g : Nat → Nat → Nat → Int) : ∀ b ∈ text3 n g, b = 43 ∨ b = 45 := fun b hb => by
  unfold text3 at hb
  obtain ⟨t, -, rfl⟩ := List.mem_map.1 hb
  unfold byteOf
  split
  · exact .inl rfl
  · exact .inr rfl
theorem arB_text {n : Nat} (h3 : 3 ≤ n) (h7 : n ≤ 7) (g : Nat → Nat → Nat → Int) : arB n (text3 n g) = true := arB_of (by omega) (by omega) (by rw [text3_length h7, Int.toNat_natCast]) (text3_43 n g)
theorem sgnF_text {n : Nat} (h3 : 3 ≤ n) (h7 : n ≤ 7) {g : Nat → Nat → Nat → Int} {i j k : Nat} (h1 : i < j) (h2 : j < k) (hk : k < n) (hg : g i j k = 1 ∨ g i j k = -1) : sgnF (lookS n (text3 n g)) i j k = g i j k := by
  rw [sgnF_asc (t := (i, j, k)) (arB_text h3 h7 g) (idx_get h7 h1 h2 hk), List.getD_eq_getElem?_getD]
  unfold text3
  rw [List.getElem?_map, idx_get h7 h1 h2 hk]
  simp only [Option.map_some, Option.getD_some]
  rcases hg with h | h <;> rw [h] <;> rfl
/-- Are the signs without a circuit of one kind after the elements of a set are reversed? -/
def acS (n : Nat) (s : List UInt8) (set : Nat) : Bool := acB (sgnF (revF set (lookS n s))) n
theorem acS_spec {n : Nat} {s : List UInt8} (h : arB n s = true) (set : Nat) : acB (sgnF (lookS n (text3 n (rvF n s set)))) n = acS n s set := by
  obtain ⟨h3, h7, -⟩ := arB_yes h
  have h3 : 3 ≤ n := by omega
  have h7 : n ≤ 7 := by omega
  refine acB_congr h7 fun i j k h1 h2 hk => ?_
  have h0 := sgn_one h (show i < n by omega) (show j < n by omega) hk (show i ≠ j by omega) (show j ≠ k by omega) (show i ≠ k by omega)
  rw [sgnF_text h3 h7 h1 h2 hk (by unfold rvF; split <;> omega), sgnF_rev h1 h2]
  unfold rvF
  rw [sgnF_plain h1 h2]
/-- The sets among the first p. -/
def setsTo (q : Nat → Bool) (p : Nat) : List Int := ((List.range p).filter q).map fun (x : Nat) => (x : Int)
theorem setsTo_hit {q : Nat → Bool} {p : Nat} (h : q p = true) : setsTo q (p + 1) = setsTo q p ++ [(p : Int)] := by unfold setsTo; rw [List.range_succ, List.filter_append, List.map_append]; simp [h]
theorem setsTo_miss {q : Nat → Bool} {p : Nat} (h : q p = false) : setsTo q (p + 1) = setsTo q p := by unfold setsTo; rw [List.range_succ, List.filter_append, List.map_append]; simp [h]
theorem setsTo_length (q : Nat → Bool) (p : Nat) : (setsTo q p).length ≤ p := by unfold setsTo; rw [List.length_map]; exact Nat.le_trans (List.length_filter_le _ _) (by simp)
/-- What AcyclicSets answers. -/
def setsZ (n : Int) (s : List UInt8) : List Int := if matB n s = true then setsTo (acS n.toNat s) (2 ^ n.toNat) else []
theorem setsZ_no {n : Int} {s : List UInt8} (h : matB n s = false) : setsZ n s = [] := by unfold setsZ; rw [h]; rfl
theorem setsZ_yes {n : Nat} {s : List UInt8} (h : matB n s = true) : setsZ n s = setsTo (acS n s) (2 ^ n) := by unfold setsZ; rw [if_pos h, Int.toNat_natCast]
theorem ownsZ_on {w w' : World} {B : Nat} {v : Value} {zs : List Int} (h : OwnsZ w B v zs) (hb : Below w.heap.size w w') : OwnsZ w' B v zs :=
  World.ownsRow.kept h (row := none) ⟨hb.os, hb.tape, hb.output, hb.size, fun k hk _ => hb.block k hk⟩ (by cases v.ownBlock <;> simp)
theorem pow_le {n : Nat} (h7 : n ≤ 7) : 2 ^ n ≤ 128 := by
  rcases (by omega : n = 0 ∨ n = 1 ∨ n = 2 ∨ n = 3 ∨ n = 4 ∨ n = 5 ∨ n = 6 ∨ n = 7) with rfl | rfl | rfl | rfl | rfl | rfl | rfl | rfl <;> decide
end Go.Proofs.Ytfjimdmoindepaa.Sg
/- How many sets leave no circuit of one kind when they are reversed: signs of at most six elements that keep the rule, all asked one after another. -/
namespace Go.Proofs.Ytfjimdmoindepaa.Rul
/-- Where three ascending elements stand in a code. -/
def cx (i j k : Nat) : Nat := i + j * (j - 1) / 2 + k * (k - 1) * (k - 2) / 6
def lo (a b c : Nat) : Nat := min a (min b c)
def hi (a b c : Nat) : Nat := max a (max b c)
/-- Where three elements stand, whatever their order. -/
def cxs (a b c : Nat) : Nat := cx (lo a b c) (a + b + c - lo a b c - hi a b c) (hi a b c)
abbrev C6 := Nat × Nat × Nat × Nat × Nat × Nat
def viol (v : Nat) (c : C6) : Bool := ((v.testBit c.1 ^^ v.testBit c.2.1) == (v.testBit c.2.2.1 ^^ v.testBit c.2.2.2.1)) && ((v.testBit c.1 ^^ v.testBit c.2.1) == !(v.testBit c.2.2.2.2.1 ^^ v.testBit c.2.2.2.2.2))
def six (a b c d e : Nat) : C6 := (cxs a b c, cxs a d e, cxs a b e, cxs a c d, cxs a b d, cxs a c e)
/-- The rule's conditions, each at the last place that it asks; false: a place where the sign is +. -/
def cons : List (Bool × List C6) :=
  [(false, []),
   (false, []),
   (false, []),
   (false, []),
   (false, []),
   (true, []),
   (true, []),
   (true, [(0, 7, 4, 2, 1, 5)]),
   (true, [(0, 8, 4, 3, 1, 6)]),
   (true, [(0, 9, 5, 3, 2, 6), (1, 9, 7, 3, 2, 8), (4, 9, 7, 6, 5, 8)]),
   (false, []),
   (true, []),
   (true, []),
   (true, [(0, 13, 10, 2, 1, 11)]),
   (true, [(0, 14, 10, 3, 1, 12)]),
   (true, [(0, 15, 11, 3, 2, 12), (1, 15, 13, 3, 2, 14), (10, 15, 13, 12, 11, 14)]),
   (true, [(0, 16, 10, 5, 4, 11), (1, 16, 10, 7, 4, 13), (2, 16, 11, 7, 5, 13)]),
   (true, [(0, 17, 10, 6, 4, 12), (1, 17, 10, 8, 4, 14), (3, 17, 12, 8, 6, 14)]),
   (true, [(0, 18, 11, 6, 5, 12), (2, 18, 11, 9, 5, 15), (3, 18, 12, 9, 6, 15), (4, 18, 16, 6, 5, 17), (10, 18, 16, 12, 11, 17)]),
   (true, [(1, 19, 13, 8, 7, 14), (2, 19, 13, 9, 7, 15), (3, 19, 14, 9, 8, 15), (4, 19, 16, 8, 7, 17), (5, 19, 16, 9, 7, 18), (6, 19, 17, 9, 8, 18), (10, 19, 16, 14, 13, 17), (11, 19, 16, 15, 13, 18), (12, 19, 17, 15, 14, 18)])]
/-- The same with no place laid. -/
def consF : List (Bool × List C6) := cons.map fun x => (true, x.2)
def trip : List (Nat × Nat × Nat) :=
  [(0, 1, 2), (0, 1, 3), (0, 2, 3), (1, 2, 3), (0, 1, 4), (0, 2, 4), (1, 2, 4), (0, 3, 4), (1, 3, 4), (2, 3, 4), (0, 1, 5), (0, 2, 5), (1, 2, 5), (0, 3, 5), (1, 3, 5), (2, 3, 5), (0, 4, 5), (1, 4, 5), (2, 4, 5), (3, 4, 5)]
def msk : Nat → Nat
  | 0 => 12297829382473034410
  | 1 => 14757395258967641292
  | 2 => 17361641481138401520
  | 3 => 18374966859414961920
  | 4 => 18446462603027742720
  | _ => 18446744069414584320
def full : Nat := 18446744073709551615
abbrev Q4 := Nat × Nat × Nat × Nat
/-- The sets that leave a circuit of one kind at four elements. -/
def bl (v : Nat) (q : Q4) : Nat :=
  let A := if v.testBit (cx q.2.1 q.2.2.1 q.2.2.2) then msk q.1 ^^^ full else msk q.1
  let B := if v.testBit (cx q.1 q.2.2.1 q.2.2.2) then msk q.2.1 else msk q.2.1 ^^^ full
  let C := if v.testBit (cx q.1 q.2.1 q.2.2.2) then msk q.2.2.1 ^^^ full else msk q.2.2.1
  let D := if v.testBit (cx q.1 q.2.1 q.2.2.1) then msk q.2.2.2 else msk q.2.2.2 ^^^ full
  (A &&& B &&& C &&& D) ||| ((A ^^^ full) &&& (B ^^^ full) &&& (C ^^^ full) &&& (D ^^^ full))
def quads : Nat → List Q4
  | 3 => []
  | 4 => [(0, 1, 2, 3)]
  | 5 => [(0, 1, 2, 3), (0, 1, 2, 4), (0, 1, 3, 4), (0, 2, 3, 4), (1, 2, 3, 4)]
  | _ => [(0, 1, 2, 3), (0, 1, 2, 4), (0, 1, 3, 4), (0, 2, 3, 4), (1, 2, 3, 4), (0, 1, 2, 5), (0, 1, 3, 5), (0, 2, 3, 5), (1, 2, 3, 5), (0, 1, 4, 5), (0, 2, 4, 5), (1, 2, 4, 5), (0, 3, 4, 5), (1, 3, 4, 5), (2, 3, 4, 5)]
def orAll (v : Nat) : List Q4 → Nat
  | [] => 0
  | q :: r => bl v q ||| orAll v r
def cz (w : Nat) : Nat → Nat
  | 0 => 0
  | S + 1 => cz w S + (if w.testBit S then 0 else 1)
def final (n v : Nat) : Bool := cz (orAll v (quads n)) (2 ^ n) == n * (n - 1) + 2
def go (n : Nat) : List (Bool × List C6) → Nat → Nat → Bool
  | [], _, v => final n v
  | (fr, cs) :: r, k, v => (cs.any (viol v) || go n r (k + 1) v) && (!fr || (cs.any (viol (v + 2 ^ k)) || go n r (k + 1) (v + 2 ^ k)))
theorem go3 : go 3 (consF.take 1) 0 0 = true := by decide +kernel
theorem go4 : go 4 (consF.take 4) 0 0 = true := by decide +kernel
theorem go5 : go 5 (consF.take 10) 0 0 = true := by decide +kernel
theorem go6 : go 6 cons 0 0 = true := by decide +kernel
theorem viol_mod {V k : Nat} {c : C6} (h : c.1 < k ∧ c.2.1 < k ∧ c.2.2.1 < k ∧ c.2.2.2.1 < k ∧ c.2.2.2.2.1 < k ∧ c.2.2.2.2.2 < k) : viol (V % 2 ^ k) c = viol V c := by
  obtain ⟨h1, h2, h3, h4, h5, h6⟩ := h
  unfold viol
  simp only [Nat.testBit_mod_two_pow, h1, h2, h3, h4, h5, h6, decide_true, Bool.true_and]
theorem mod_succ (V k : Nat) : V % 2 ^ (k + 1) = V % 2 ^ k + (if V.testBit k then 2 ^ k else 0) := by
  rw [Nat.mod_pow_succ, Nat.testBit_eq_decide_div_mod_eq]
  rcases Nat.mod_two_eq_zero_or_one (V / 2 ^ k) with h | h <;> rw [h] <;> simp
theorem go_sound (n V : Nat) : ∀ (L : List (Bool × List C6)) (k : Nat), go n L k (V % 2 ^ k) = true → V < 2 ^ (k + L.length) →
    (∀ (i : Nat) (x : Bool × List C6), L[i]? = some x → (x.1 = false → V.testBit (k + i) = false) ∧ ∀ c ∈ x.2, (c.1 < k + i + 1 ∧ c.2.1 < k + i + 1 ∧ c.2.2.1 < k + i + 1 ∧ c.2.2.2.1 < k + i + 1 ∧ c.2.2.2.2.1 < k + i + 1 ∧ c.2.2.2.2.2 < k + i + 1) ∧ viol V c = false) → final n V = true
  | [], k, hg, hV, _ => by
    rw [Nat.mod_eq_of_lt (by simpa using hV)] at hg
    exact hg
  | (fr, cs) :: r, k, hg, hV, hc => by
    obtain ⟨h0, h1⟩ := hc 0 (fr, cs) rfl
    have hno : cs.any (viol (V % 2 ^ (k + 1))) = false := by
      rw [List.any_eq_false]
      intro c hcm
      obtain ⟨hi, hv⟩ := h1 c hcm
      rw [viol_mod (by simpa using hi), hv]
      simp
    have hrest : go n r (k + 1) (V % 2 ^ (k + 1)) = true := by
      unfold go at hg
      rw [Bool.and_eq_true, Bool.or_eq_true, Bool.or_eq_true, Bool.or_eq_true] at hg
      rw [mod_succ] at hno ⊢
      cases hb : V.testBit k
      · rw [hb] at hno
        simp only [Bool.false_eq_true, if_false, Nat.add_zero] at hno ⊢
        rcases hg.1 with h | h
        · rw [hno] at h; cases h
        · exact h
      · rw [hb] at hno
        simp only [if_true] at hno ⊢
        rcases hg.2 with h | h | h
        · cases fr
          · have := h0 rfl
            rw [Nat.add_zero, hb] at this; cases this
          · cases h
        · rw [hno] at h; cases h
        · exact h
    refine go_sound n V r (k + 1) hrest (by rw [List.length_cons] at hV; rw [show k + 1 + r.length = k + (r.length + 1) by omega]; exact hV) fun i x hx => ?_
    have := hc (i + 1) x (by simpa using hx)
    rw [show k + (i + 1) = k + 1 + i by omega] at this
    exact this
theorem of_bits : ∀ l : List Bool, ∃ v, v < 2 ^ l.length ∧ ∀ i, i < l.length → v.testBit i = l.getD i false
  | [] => ⟨0, by simp, fun i h => by simp at h⟩
  | b :: r => by
    obtain ⟨v, hv, hb⟩ := of_bits r
    refine ⟨2 * v + b.toNat, ?_, fun i hi => ?_⟩
    · rw [List.length_cons, Nat.pow_succ]
      have := Bool.toNat_le b
      omega
    · rcases i with _ | i
      · rw [Nat.testBit_zero]
        cases b <;> simp [Nat.add_mod]
      · rw [Nat.testBit_succ]
        have : (2 * v + b.toNat) / 2 = v := by have := Bool.toNat_le b; omega
        rw [this, hb i (by simpa using hi)]
        simp
theorem all_lt {n : Nat} {p : Nat → Bool} (h : (List.range n).all p = true) {i : Nat} (hi : i < n) : p i = true := List.all_eq_true.1 h i (List.mem_range.2 hi)
theorem trip_get0 : ((List.range 6).all fun k => (List.range k).all fun j => (List.range j).all fun i => trip[cx i j k]? == some (i, j, k)) = true := by decide +kernel
theorem trip_get {i j k : Nat} (h1 : i < j) (h2 : j < k) (h3 : k < 6) : trip[cx i j k]? = some (i, j, k) := by simpa using all_lt (all_lt (all_lt trip_get0 h3) h2) h1
/-- A code for signs of three. -/
theorem of_signs (t : Nat → Nat → Nat → Bool) (m : Nat) (hm : m ≤ 20) : ∃ v, v < 2 ^ m ∧ ∀ i j k, i < j → j < k → k < 6 → cx i j k < m → v.testBit (cx i j k) = t i j k := by
  obtain ⟨v, hv, hb⟩ := of_bits ((trip.take m).map fun x => t x.1 x.2.1 x.2.2)
  have hl : trip.length = 20 := by decide
  rw [List.length_map, List.length_take, hl, Nat.min_eq_left hm] at hv hb
  refine ⟨v, hv, fun i j k h1 h2 h3 h4 => ?_⟩
  rw [hb _ h4, List.getD_eq_getElem?_getD, List.getElem?_map, List.getElem?_take_of_lt h4, trip_get h1 h2 h3]
  rfl
/-- The sign of three different elements, whatever their order, by those in order. -/
def tS (t : Nat → Nat → Nat → Bool) (a b c : Nat) : Bool := t (lo a b c) (a + b + c - lo a b c - hi a b c) (hi a b c)
def violT (t : Nat → Nat → Nat → Bool) (a b c d e : Nat) : Bool := ((tS t a b c ^^ tS t a d e) == (tS t a b e ^^ tS t a c d)) && ((tS t a b c ^^ tS t a d e) == !(tS t a b d ^^ tS t a c e))
def qn (n : Nat) : Nat := n * (n - 1) * (n - 2) / 6
theorem cx_lt0 : ((List.range 7).all fun n => (List.range n).all fun k => (List.range k).all fun j => (List.range j).all fun i => decide (cx i j k < qn n)) = true := by decide +kernel
theorem cx_lt {n i j k : Nat} (hn : n ≤ 6) (h1 : i < j) (h2 : j < k) (h3 : k < n) : cx i j k < qn n := by simpa using all_lt (all_lt (all_lt (all_lt cx_lt0 (show n < 7 by omega)) h3) h2) h1
theorem tS_code {t : Nat → Nat → Nat → Bool} {v n a b c : Nat} (hn : n ≤ 6) (hv : ∀ i j k, i < j → j < k → k < 6 → cx i j k < qn n → v.testBit (cx i j k) = t i j k) (ha : a < n) (hb : b < n) (hc : c < n) (h1 : a ≠ b) (h2 : a ≠ c) (h3 : b ≠ c) : v.testBit (cxs a b c) = tS t a b c := by
  have e1 : lo a b c < a + b + c - lo a b c - hi a b c ∧ a + b + c - lo a b c - hi a b c < hi a b c ∧ hi a b c < n := by unfold lo hi; omega
  exact hv _ _ _ e1.1 e1.2.1 (by omega) (cx_lt hn e1.1 e1.2.1 e1.2.2)
/-- Every condition asks five elements. -/
def fives (n : Nat) : List (Nat × Nat × Nat × Nat × Nat) := (List.range n).flatMap fun a => (List.range n).flatMap fun b => (List.range n).flatMap fun c => (List.range n).flatMap fun d => (List.range n).filterMap fun e => if b < c && c < d && d < e && a != b && a != c && a != d && a != e then some (a, b, c, d, e) else none
theorem cons_from0 : ((List.range 7).all fun n => (cons.take (qn n)).zipIdx.all fun x => x.1.2.all fun c => (fives n).any fun y => six y.1 y.2.1 y.2.2.1 y.2.2.2.1 y.2.2.2.2 == c) = true := by decide +kernel
theorem cons_idx0 : (cons.zipIdx.all fun x => x.1.2.all fun c => decide (c.1 < x.2 + 1) && decide (c.2.1 < x.2 + 1) && decide (c.2.2.1 < x.2 + 1) && decide (c.2.2.2.1 < x.2 + 1) && decide (c.2.2.2.2.1 < x.2 + 1) && decide (c.2.2.2.2.2 < x.2 + 1)) = true := by decide +kernel
theorem cons_from {n i : Nat} {x : Bool × List C6} {c : C6} (hn : n ≤ 6) (hx : (cons.take (qn n))[i]? = some x) (hc : c ∈ x.2) : ∃ a b c' d e, (a < n ∧ b < c' ∧ c' < d ∧ d < e ∧ e < n ∧ a ≠ b ∧ a ≠ c' ∧ a ≠ d ∧ a ≠ e) ∧ six a b c' d e = c := by
  have h := all_lt cons_from0 (show n < 7 by omega)
  simp only [List.all_eq_true] at h
  obtain ⟨hi, e⟩ := List.getElem?_eq_some_iff.1 hx
  have hm : (x, i) ∈ (cons.take (qn n)).zipIdx := by
    rw [List.mem_zipIdx_iff_getElem?]
    exact hx
  have := h (x, i) hm c hc
  rw [List.any_eq_true] at this
  obtain ⟨y, hy, he⟩ := this
  unfold fives at hy
  simp only [List.mem_flatMap, List.mem_filterMap, List.mem_range, Option.ite_none_right_eq_some, Option.some.injEq, Bool.and_eq_true, decide_eq_true_eq, bne_iff_ne, ne_eq] at hy
  obtain ⟨a, ha, b, hb, c', hc', d, hd, e', he', hh, rfl⟩ := hy
  exact ⟨a, b, c', d, e', ⟨ha, hh.1.1.1.1.1.1, hh.1.1.1.1.1.2, hh.1.1.1.1.2, he', hh.1.1.1.2, hh.1.1.2, hh.1.2, hh.2⟩, by simpa using he⟩
theorem cons_idx {i : Nat} {x : Bool × List C6} {c : C6} (hx : cons[i]? = some x) (hc : c ∈ x.2) : c.1 < i + 1 ∧ c.2.1 < i + 1 ∧ c.2.2.1 < i + 1 ∧ c.2.2.2.1 < i + 1 ∧ c.2.2.2.2.1 < i + 1 ∧ c.2.2.2.2.2 < i + 1 := by
  have h := cons_idx0
  simp only [List.all_eq_true] at h
  have := h (x, i) (List.mem_zipIdx_iff_getElem?.2 hx) c hc
  simp only [Bool.and_eq_true, decide_eq_true_eq] at this
  omega
def blkT (t : Nat → Nat → Nat → Bool) (S : Nat) (q : Q4) : Bool :=
  ((t q.2.1 q.2.2.1 q.2.2.2 ^^ S.testBit q.1) && !(t q.1 q.2.2.1 q.2.2.2 ^^ S.testBit q.2.1) && (t q.1 q.2.1 q.2.2.2 ^^ S.testBit q.2.2.1) && !(t q.1 q.2.1 q.2.2.1 ^^ S.testBit q.2.2.2)) ||
  (!(t q.2.1 q.2.2.1 q.2.2.2 ^^ S.testBit q.1) && (t q.1 q.2.2.1 q.2.2.2 ^^ S.testBit q.2.1) && !(t q.1 q.2.1 q.2.2.2 ^^ S.testBit q.2.2.1) && (t q.1 q.2.1 q.2.2.1 ^^ S.testBit q.2.2.2))
theorem msk_bit0 : ∀ x, x < 6 → ∀ S, S < 64 → (msk x).testBit S = S.testBit x := by decide +kernel
theorem full_bit0 : ∀ S, S < 64 → full.testBit S = true := by decide +kernel
theorem bl_bit {v S : Nat} {q : Q4} (hS : S < 64) (h1 : q.1 < 6) (h2 : q.2.1 < 6) (h3 : q.2.2.1 < 6) (h4 : q.2.2.2 < 6) : (bl v q).testBit S = blkT (fun i j k => v.testBit (cx i j k)) S q := by
  unfold bl blkT
  have m1 := msk_bit0 _ h1 S hS
  have m2 := msk_bit0 _ h2 S hS
  have m3 := msk_bit0 _ h3 S hS
  have m4 := msk_bit0 _ h4 S hS
  have f := full_bit0 S hS
  simp only [Nat.testBit_or, Nat.testBit_and, Nat.testBit_xor, f]
  cases v.testBit (cx q.2.1 q.2.2.1 q.2.2.2) <;> cases v.testBit (cx q.1 q.2.2.1 q.2.2.2) <;> cases v.testBit (cx q.1 q.2.1 q.2.2.2) <;> cases v.testBit (cx q.1 q.2.1 q.2.2.1) <;> simp only [if_true, if_false, Bool.false_eq_true, Nat.testBit_xor, m1, m2, m3, m4, f] <;> cases S.testBit q.1 <;> cases S.testBit q.2.1 <;> cases S.testBit q.2.2.1 <;> cases S.testBit q.2.2.2 <;> rfl
theorem quads_lt0 : ((List.range 7).all fun n => (quads n).all fun q => decide (n < 3) || (decide (q.1 < q.2.1) && decide (q.2.1 < q.2.2.1) && decide (q.2.2.1 < q.2.2.2) && decide (q.2.2.2 < n))) = true := by decide +kernel
theorem quads_lt {n : Nat} (h3 : 3 ≤ n) (h6 : n ≤ 6) {q : Q4} (hq : q ∈ quads n) : q.1 < q.2.1 ∧ q.2.1 < q.2.2.1 ∧ q.2.2.1 < q.2.2.2 ∧ q.2.2.2 < n := by
  have h := all_lt quads_lt0 (show n < 7 by omega)
  simp only [List.all_eq_true] at h
  have := h q hq
  simp only [Bool.or_eq_true, Bool.and_eq_true, decide_eq_true_eq] at this
  omega
theorem orAll_bit {v S : Nat} (hS : S < 64) : ∀ L : List Q4, (∀ q ∈ L, q.1 < 6 ∧ q.2.1 < 6 ∧ q.2.2.1 < 6 ∧ q.2.2.2 < 6) → (orAll v L).testBit S = L.any fun q => blkT (fun i j k => v.testBit (cx i j k)) S q
  | [], _ => by simp [orAll]
  | q :: r, h => by
    obtain ⟨h1, h2, h3, h4⟩ := h q (by simp)
    rw [orAll, Nat.testBit_or, bl_bit hS h1 h2 h3 h4, orAll_bit hS r (fun x hx => h x (by simp [hx])), List.any_cons]
theorem cz_eq (w : Nat) : ∀ m, cz w m = ((List.range m).filter fun S => !w.testBit S).length
  | 0 => rfl
  | m + 1 => by
    rw [cz, cz_eq w m, List.range_succ, List.filter_append, List.length_append]
    cases hb : w.testBit m <;> simp [hb]
theorem filter_congr_lt {m : Nat} {p q : Nat → Bool} (h : ∀ S, S < m → p S = q S) : ((List.range m).filter p).length = ((List.range m).filter q).length := by
  rw [List.filter_congr (fun S hS => h S (List.mem_range.1 hS))]
theorem pow_le {n : Nat} (h6 : n ≤ 6) : 2 ^ n ≤ 64 := by
  rcases (by omega : n = 0 ∨ n = 1 ∨ n = 2 ∨ n = 3 ∨ n = 4 ∨ n = 5 ∨ n = 6) with rfl | rfl | rfl | rfl | rfl | rfl | rfl <;> decide
theorem any_same : ∀ {L : List Q4} {p q : Q4 → Bool}, (∀ x ∈ L, p x = q x) → L.any p = L.any q
  | [], _, _, _ => rfl
  | x :: r, p, q, h => by rw [List.any_cons, List.any_cons, h x (by simp), any_same fun y hy => h y (by simp [hy])]
theorem blkT_code {t : Nat → Nat → Nat → Bool} {v n : Nat} (h3 : 3 ≤ n) (h6 : n ≤ 6) (hv : ∀ i j k, i < j → j < k → k < 6 → cx i j k < qn n → v.testBit (cx i j k) = t i j k) (S : Nat) : ((quads n).any fun q => blkT (fun i j k => v.testBit (cx i j k)) S q) = (quads n).any fun q => blkT t S q := by
  refine any_same fun q hq => ?_
  obtain ⟨l1, l2, l3, l4⟩ := quads_lt h3 h6 hq
  have e := fun i j k (h1 : i < j) (h2 : j < k) (h4 : k < n) => hv i j k h1 h2 (by omega) (cx_lt h6 h1 h2 h4)
  unfold blkT
  simp only []
  rw [e q.2.1 q.2.2.1 q.2.2.2 l2 l3 l4, e q.1 q.2.2.1 q.2.2.2 (by omega) l3 l4, e q.1 q.2.1 q.2.2.2 l1 (by omega) l4, e q.1 q.2.1 q.2.2.1 l1 l2 (by omega)]
/-- So many sets leave no circuit of one kind. -/
def many (n : Nat) (t : Nat → Nat → Nat → Bool) : Nat := ((List.range (2 ^ n)).filter fun S => !(quads n).any fun q => blkT t S q).length
def Keeps (n : Nat) (t : Nat → Nat → Nat → Bool) : Prop := ∀ a b c d e, a < n → b < c → c < d → d < e → e < n → a ≠ b → a ≠ c → a ≠ d → a ≠ e → violT t a b c d e = false
theorem final_many {n v : Nat} {t : Nat → Nat → Nat → Bool} (h3 : 3 ≤ n) (h6 : n ≤ 6) (hv : ∀ i j k, i < j → j < k → k < 6 → cx i j k < qn n → v.testBit (cx i j k) = t i j k) (h : final n v = true) : many n t = n * (n - 1) + 2 := by
  unfold final at h
  rw [cz_eq, beq_iff_eq] at h
  rw [← h]
  unfold many
  refine filter_congr_lt fun S hS => ?_
  have := pow_le h6
  rw [orAll_bit (by omega) _ (fun q hq => by obtain ⟨l1, l2, l3, l4⟩ := quads_lt h3 h6 hq; omega), blkT_code h3 h6 hv]
theorem viol_six {t : Nat → Nat → Nat → Bool} {v n a b c d e : Nat} (h6 : n ≤ 6) (hv : ∀ i j k, i < j → j < k → k < 6 → cx i j k < qn n → v.testBit (cx i j k) = t i j k) (ha : a < n) (h1 : b < c) (h2 : c < d) (h3 : d < e) (h4 : e < n) (n1 : a ≠ b) (n2 : a ≠ c) (n3 : a ≠ d) (n4 : a ≠ e) : viol v (six a b c d e) = violT t a b c d e := by
  have T := fun x y z (hx : x < n) (hy : y < n) (hz : z < n) (g1 : x ≠ y) (g2 : x ≠ z) (g3 : y ≠ z) => tS_code (t := t) h6 hv hx hy hz g1 g2 g3
  unfold viol violT six
  simp only []
  rw [T a b c ha (by omega) (by omega) n1 n2 (by omega), T a d e ha (by omega) h4 n3 n4 (by omega), T a b e ha (by omega) h4 n1 n4 (by omega), T a c d ha (by omega) (by omega) n2 n3 (by omega), T a b d ha (by omega) (by omega) n1 n3 (by omega), T a c e ha (by omega) h4 n2 n4 (by omega)]
theorem many_small {n : Nat} (t : Nat → Nat → Nat → Bool) (h3 : 3 ≤ n) (h6 : n ≤ 6) (hgo : go n (consF.take (qn n)) 0 0 = true) (hk : Keeps n t) : many n t = n * (n - 1) + 2 := by
  have hq : qn n ≤ 20 := by rcases (by omega : n = 3 ∨ n = 4 ∨ n = 5 ∨ n = 6) with rfl | rfl | rfl | rfl <;> decide
  obtain ⟨v, hv1, hv⟩ := of_signs t (qn n) hq
  have hcl : consF.length = 20 := by decide
  have hlen : v < 2 ^ (0 + (consF.take (qn n)).length) := by
    rw [List.length_take, hcl, Nat.min_eq_left hq, Nat.zero_add]
    exact hv1
  refine final_many h3 h6 hv (go_sound n v (consF.take (qn n)) 0 (by rw [Nat.pow_zero, Nat.mod_one]; exact hgo) hlen fun i x hx => ?_)
  unfold consF at hx
  rw [← List.map_take, List.getElem?_map] at hx
  obtain ⟨y, hy, rfl⟩ := Option.map_eq_some_iff.1 hx
  refine ⟨fun h => by simp at h, fun c hc => ?_⟩
  have hy2 : cons[i]? = some y := by
    obtain ⟨hi, e⟩ := List.getElem?_eq_some_iff.1 hy
    rw [List.getElem?_take_of_lt (by simp at hi; omega)] at hy
    exact hy
  refine ⟨by have := cons_idx hy2 hc; simpa using this, ?_⟩
  obtain ⟨a, b, c', d, e, ⟨g1, g2, g3, g4, g5, g6, g7, g8, g9⟩, rfl⟩ := cons_from h6 hy hc
  rw [viol_six h6 hv g1 g2 g3 g4 g5 g6 g7 g8 g9]
  exact hk a b c' d e g1 g2 g3 g4 g5 g6 g7 g8 g9
/-- The signs after the elements of a set are reversed. -/
def flipT (T : Nat) (t : Nat → Nat → Nat → Bool) (i j k : Nat) : Bool := t i j k ^^ (T.testBit i ^^ T.testBit j ^^ T.testBit k)
theorem three_cases (a b c : Nat) : (lo a b c = a ∧ a + b + c - lo a b c - hi a b c = b ∧ hi a b c = c) ∨ (lo a b c = a ∧ a + b + c - lo a b c - hi a b c = c ∧ hi a b c = b) ∨ (lo a b c = b ∧ a + b + c - lo a b c - hi a b c = a ∧ hi a b c = c) ∨ (lo a b c = b ∧ a + b + c - lo a b c - hi a b c = c ∧ hi a b c = a) ∨ (lo a b c = c ∧ a + b + c - lo a b c - hi a b c = a ∧ hi a b c = b) ∨ (lo a b c = c ∧ a + b + c - lo a b c - hi a b c = b ∧ hi a b c = a) := by
  unfold lo hi; omega
theorem tS_flip (T : Nat) (t : Nat → Nat → Nat → Bool) (a b c : Nat) : tS (flipT T t) a b c = (tS t a b c ^^ (T.testBit a ^^ T.testBit b ^^ T.testBit c)) := by
  unfold tS flipT
  congr 1
  rcases three_cases a b c with ⟨e1, e2, e3⟩ | ⟨e1, e2, e3⟩ | ⟨e1, e2, e3⟩ | ⟨e1, e2, e3⟩ | ⟨e1, e2, e3⟩ | ⟨e1, e2, e3⟩ <;> rw [e2, e1, e3] <;> cases T.testBit a <;> cases T.testBit b <;> cases T.testBit c <;> rfl
theorem viol_bools : ∀ x1 x2 x3 x4 x5 x6 a b c d e : Bool, ((((x1 ^^ (a ^^ b ^^ c)) ^^ (x2 ^^ (a ^^ d ^^ e))) == ((x3 ^^ (a ^^ b ^^ e)) ^^ (x4 ^^ (a ^^ c ^^ d)))) && (((x1 ^^ (a ^^ b ^^ c)) ^^ (x2 ^^ (a ^^ d ^^ e))) == !((x5 ^^ (a ^^ b ^^ d)) ^^ (x6 ^^ (a ^^ c ^^ e))))) = (((x1 ^^ x2) == (x3 ^^ x4)) && ((x1 ^^ x2) == !(x5 ^^ x6))) := by decide +kernel
theorem viol_flip (T : Nat) (t : Nat → Nat → Nat → Bool) (a b c d e : Nat) : violT (flipT T t) a b c d e = violT t a b c d e := by
  unfold violT
  simp only [tS_flip]
  exact viol_bools _ _ _ _ _ _ _ _ _ _ _
theorem keeps_flip {n T : Nat} {t : Nat → Nat → Nat → Bool} : Keeps n (flipT T t) ↔ Keeps n t := by
  unfold Keeps
  simp only [viol_flip]
theorem blk_bools : ∀ x y z u a b c d p q r s : Bool,
    ((((x ^^ (q ^^ r ^^ s)) ^^ a) && !((y ^^ (p ^^ r ^^ s)) ^^ b) && ((z ^^ (p ^^ q ^^ s)) ^^ c) && !((u ^^ (p ^^ q ^^ r)) ^^ d)) || (!((x ^^ (q ^^ r ^^ s)) ^^ a) && ((y ^^ (p ^^ r ^^ s)) ^^ b) && !((z ^^ (p ^^ q ^^ s)) ^^ c) && ((u ^^ (p ^^ q ^^ r)) ^^ d))) =
    (((x ^^ (a ^^ p)) && !(y ^^ (b ^^ q)) && (z ^^ (c ^^ r)) && !(u ^^ (d ^^ s))) || (!(x ^^ (a ^^ p)) && (y ^^ (b ^^ q)) && !(z ^^ (c ^^ r)) && (u ^^ (d ^^ s)))) := by decide +kernel
theorem blk_flip (T : Nat) (t : Nat → Nat → Nat → Bool) (S : Nat) (q : Q4) : blkT (flipT T t) S q = blkT t (S ^^^ T) q := by
  unfold blkT flipT
  simp only [Nat.testBit_xor]
  exact blk_bools _ _ _ _ _ _ _ _ _ _ _ _
theorem perm_xor : ∀ T, T < 64 → ((List.range 64).map fun S => S ^^^ T).Perm (List.range 64) := by decide +kernel
theorem many_flip {T : Nat} (hT : T < 64) (t : Nat → Nat → Nat → Bool) : many 6 (flipT T t) = many 6 t := by
  unfold many
  simp only [blk_flip]
  rw [← List.countP_eq_length_filter, ← List.countP_eq_length_filter]
  have := (perm_xor T hT).countP_eq (fun S => !(quads 6).any fun q => blkT t S q)
  rw [List.countP_map] at this
  exact this
theorem many_six (t : Nat → Nat → Nat → Bool) (hk : Keeps 6 t) : many 6 t = 6 * (6 - 1) + 2 := by
  obtain ⟨T, hT, hb⟩ := of_bits [t 0 2 3 ^^ (t 0 1 2 ^^ t 0 1 3), t 1 2 3 ^^ (t 0 1 2 ^^ t 0 1 3), t 0 1 2 ^^ ((t 0 2 3 ^^ (t 0 1 2 ^^ t 0 1 3)) ^^ (t 1 2 3 ^^ (t 0 1 2 ^^ t 0 1 3))), t 0 1 3 ^^ ((t 0 2 3 ^^ (t 0 1 2 ^^ t 0 1 3)) ^^ (t 1 2 3 ^^ (t 0 1 2 ^^ t 0 1 3))),
    t 0 1 4 ^^ ((t 0 2 3 ^^ (t 0 1 2 ^^ t 0 1 3)) ^^ (t 1 2 3 ^^ (t 0 1 2 ^^ t 0 1 3))), t 0 1 5 ^^ ((t 0 2 3 ^^ (t 0 1 2 ^^ t 0 1 3)) ^^ (t 1 2 3 ^^ (t 0 1 2 ^^ t 0 1 3)))]
  have hT : T < 64 := hT
  have b0 := hb 0 (by simp)
  have b1 := hb 1 (by simp)
  have b2 := hb 2 (by simp)
  have b3 := hb 3 (by simp)
  have b4 := hb 4 (by simp)
  have b5 := hb 5 (by simp)
  simp only [List.getD_cons_zero, List.getD_cons_succ] at b0 b1 b2 b3 b4 b5
  rw [← many_flip hT t]
  have hk' : Keeps 6 (flipT T t) := keeps_flip.2 hk
  have z0 : flipT T t 0 1 2 = false := by unfold flipT; rw [b0, b1, b2]; generalize t 0 1 2 = x; generalize t 0 1 3 = y; generalize t 0 2 3 = z; generalize t 1 2 3 = u; revert x y z u; decide
  have z1 : flipT T t 0 1 3 = false := by unfold flipT; rw [b0, b1, b3]; generalize t 0 1 2 = x; generalize t 0 1 3 = y; generalize t 0 2 3 = z; generalize t 1 2 3 = u; revert x y z u; decide
  have z2 : flipT T t 0 2 3 = false := by unfold flipT; rw [b0, b2, b3]; generalize t 0 1 2 = x; generalize t 0 1 3 = y; generalize t 0 2 3 = z; generalize t 1 2 3 = u; revert x y z u; decide
  have z3 : flipT T t 1 2 3 = false := by unfold flipT; rw [b1, b2, b3]; generalize t 0 1 2 = x; generalize t 0 1 3 = y; generalize t 0 2 3 = z; generalize t 1 2 3 = u; revert x y z u; decide
  have z4 : flipT T t 0 1 4 = false := by unfold flipT; rw [b0, b1, b4]; generalize t 0 1 2 = x; generalize t 0 1 3 = y; generalize t 0 2 3 = z; generalize t 1 2 3 = u; generalize t 0 1 4 = p; revert x y z u p; decide
  have z10 : flipT T t 0 1 5 = false := by unfold flipT; rw [b0, b1, b5]; generalize t 0 1 2 = x; generalize t 0 1 3 = y; generalize t 0 2 3 = z; generalize t 1 2 3 = u; generalize t 0 1 5 = p; revert x y z u p; decide
  generalize flipT T t = f at hk' z0 z1 z2 z3 z4 z10 ⊢
  obtain ⟨v, hv1, hv⟩ := of_signs f 20 (by omega)
  have hv' : ∀ i j k, i < j → j < k → k < 6 → cx i j k < qn 6 → v.testBit (cx i j k) = f i j k := hv
  refine final_many (by omega) (by omega) hv' (go_sound 6 v cons 0 (by rw [Nat.pow_zero, Nat.mod_one]; exact go6) hv1 fun i x hx => ?_)
  refine ⟨fun h => ?_, fun c hc => ⟨by have := cons_idx hx hc; simpa using this, ?_⟩⟩
  · have hz : i = 0 ∨ i = 1 ∨ i = 2 ∨ i = 3 ∨ i = 4 ∨ i = 10 := by
      have h0 : ((List.range 20).all fun i => (cons[i]?.all fun x => x.1) || i == 0 || i == 1 || i == 2 || i == 3 || i == 4 || i == 10) = true := by decide +kernel
      have hi : i < 20 := (List.getElem?_eq_some_iff.1 hx).1
      have := all_lt h0 hi
      rw [hx] at this
      simp only [Option.all_some, h, Bool.false_or, Bool.or_eq_true, beq_iff_eq] at this
      omega
    rw [Nat.zero_add]
    rcases hz with rfl | rfl | rfl | rfl | rfl | rfl
    · exact (hv 0 1 2 (by omega) (by omega) (by omega) (by decide)).trans z0
    · exact (hv 0 1 3 (by omega) (by omega) (by omega) (by decide)).trans z1
    · exact (hv 0 2 3 (by omega) (by omega) (by omega) (by decide)).trans z2
    · exact (hv 1 2 3 (by omega) (by omega) (by omega) (by decide)).trans z3
    · exact (hv 0 1 4 (by omega) (by omega) (by omega) (by decide)).trans z4
    · exact (hv 0 1 5 (by omega) (by omega) (by omega) (by decide)).trans z10
  · obtain ⟨a, b, c', d, e, ⟨g1, g2, g3, g4, g5, g6, g7, g8, g9⟩, rfl⟩ := cons_from (n := 6) (i := i) (by omega) (by rw [show qn 6 = 20 by decide, List.take_of_length_le (by decide)]; exact hx) hc
    rw [viol_six (n := 6) (by omega) hv' g1 g2 g3 g4 g5 g6 g7 g8 g9]
    exact hk' a b c' d e g1 g2 g3 g4 g5 g6 g7 g8 g9
/-- Signs of three to six elements that keep the rule: n (n - 1) + 2 sets leave no circuit of one kind. -/
theorem many_all {n : Nat} {t : Nat → Nat → Nat → Bool} (h3 : 3 ≤ n) (h6 : n ≤ 6) (hk : Keeps n t) : many n t = n * (n - 1) + 2 := by
  rcases (by omega : n = 3 ∨ n = 4 ∨ n = 5 ∨ n = 6) with rfl | rfl | rfl | rfl
  · exact many_small t (by omega) (by omega) go3 hk
  · exact many_small t (by omega) (by omega) go4 hk
  · exact many_small t (by omega) (by omega) go5 hk
  · exact many_six t hk
end Go.Proofs.Ytfjimdmoindepaa.Rul
/- What the promise on the exchange rule says, on plain signs: reversing keeps the rule; so many sets leave no circuit of one kind. -/
namespace Go.Proofs.Ytfjimdmoindepaa.Sg
open Go.RowKit Pt Rul
def sgB (b : Bool) : Int := if b then -1 else 1
def tOf (n : Nat) (s : List UInt8) (i j k : Nat) : Bool := decide (sgnF (lookS n s) i j k = -1)
theorem sg_tOf {n : Nat} {s : List UInt8} (h : arB n s = true) {i j k : Nat} (h1 : i < j) (h2 : j < k) (hk : k < n) : sgnF (lookS n s) i j k = sgB (tOf n s i j k) := by
  unfold sgB tOf
  rcases sgn_one h (show i < n by omega) (show j < n by omega) hk (show i ≠ j by omega) (show j ≠ k by omega) (show i ≠ k by omega) with e | e <;> rw [e] <;> rfl
def par (a b : Nat) : Bool := decide (b < a)
/-- The sign of three of which the last two are in order, by the three in order. -/
theorem sgnF_sort (f : Int → Int → Int → Int) {a b c : Nat} (hbc : b < c) (h1 : a ≠ b) (h2 : a ≠ c) : sgnF f a b c = sgB (par a b) * sgB (par a c) * f (lo a b c : Nat) (a + b + c - lo a b c - hi a b c : Nat) (hi a b c : Nat) := by
  rcases (by omega : a < b ∨ (b < a ∧ a < c) ∨ c < a) with h | ⟨h, h'⟩ | h
  · have e1 : lo a b c = a := by unfold lo; omega
    have e3 : hi a b c = c := by unfold hi; omega
    have e2 : a + b + c - lo a b c - hi a b c = b := by rw [e1, e3]; omega
    rw [e2, e1, e3, sgnF_of (srt_asc (i := a) (j := b) (k := c) (by omega) (by omega))]
    have p1 : par a b = false := by unfold par; simp; omega
    have p2 : par a c = false := by unfold par; simp; omega
    rw [p1, p2]; unfold sgB; simp
  · have e1 : lo a b c = b := by unfold lo; omega
    have e3 : hi a b c = c := by unfold hi; omega
    have e2 : a + b + c - lo a b c - hi a b c = a := by rw [e1, e3]; omega
    have hs : srt (a : Int) b c = ((b : Int), (a : Int), (c : Int), -1) := by
      unfold srt
      have g1 : (b : Int) < a := by omega
      have g2 : ¬ (c : Int) < a := by omega
      have g3 : ¬ (a : Int) < b := by omega
      simp [g1, g2, g3]
    rw [e2, e1, e3, sgnF_of hs]
    have p1 : par a b = true := by unfold par; simp; omega
    have p2 : par a c = false := by unfold par; simp; omega
    rw [p1, p2]; unfold sgB; simp
  · have e1 : lo a b c = b := by unfold lo; omega
    have e3 : hi a b c = a := by unfold hi; omega
    have e2 : a + b + c - lo a b c - hi a b c = c := by rw [e1, e3]; omega
    have hs : srt (a : Int) b c = ((b : Int), (c : Int), (a : Int), 1) := by
      unfold srt
      have g1 : (b : Int) < a := by omega
      have g2 : (c : Int) < a := by omega
      have g3 : ¬ (c : Int) < b := by omega
      simp [g1, g2, g3]
    rw [e2, e1, e3, sgnF_of hs]
    have p1 : par a b = true := by unfold par; simp; omega
    have p2 : par a c = true := by unfold par; simp; omega
    rw [p1, p2]; unfold sgB; simp
theorem sgnF_par {n : Nat} {s : List UInt8} (h : arB n s = true) {a b c : Nat} (ha : a < n) (hbc : b < c) (hc : c < n) (h1 : a ≠ b) (h2 : a ≠ c) : sgnF (lookS n s) a b c = sgB (par a b) * sgB (par a c) * sgB (tS (tOf n s) a b c) := by
  have e1 : lo a b c < a + b + c - lo a b c - hi a b c ∧ a + b + c - lo a b c - hi a b c < hi a b c ∧ hi a b c < n := by unfold lo hi; omega
  rw [sgnF_sort _ hbc h1 h2, ← sgnF_plain (f := lookS n s) e1.1 e1.2.1, sg_tOf h e1.1 e1.2.1 e1.2.2]
  rfl
theorem brk_bools : ∀ p q r s x1 x2 x3 x4 x5 x6 : Bool, (((sgB p * sgB q * sgB x1) * (sgB r * sgB s * sgB x2) == (sgB p * sgB s * sgB x3) * (sgB q * sgB r * sgB x4)) && ((sgB p * sgB q * sgB x1) * (sgB r * sgB s * sgB x2) == -(sgB p * sgB r * sgB x5) * (sgB q * sgB s * sgB x6))) = (((x1 ^^ x2) == (x3 ^^ x4)) && ((x1 ^^ x2) == !(x5 ^^ x6))) := by decide +kernel
theorem brk_viol {n : Nat} {s : List UInt8} (h : arB n s = true) {a b c d e : Nat} (hv : Val n a b c d e) : brk (sgnF (lookS n s)) a b c d e = violT (tOf n s) a b c d e := by
  obtain ⟨h1, h2, h3, h4, h5, h6, h7, h8, h9⟩ := hv
  unfold brk violT
  rw [sgnF_par h h1 h2 (by omega) h6 h7, sgnF_par h h1 h4 (by omega) h8 h9, sgnF_par h h1 (show b < e by omega) (by omega) h6 h9, sgnF_par h h1 h3 (by omega) h7 h8, sgnF_par h h1 (show b < d by omega) (by omega) h6 h8, sgnF_par h h1 (show c < e by omega) (by omega) h7 h9]
  exact brk_bools _ _ _ _ _ _ _ _ _ _
theorem ok_keeps {n : Nat} {s : List UInt8} (h : arB n s = true) : okB (sgnF (lookS n s)) n = true ↔ Keeps n (tOf n s) := by
  obtain ⟨_, h7, -, -⟩ := arB_yes h
  rw [okB_iff (by omega)]
  constructor
  · intro hk a b c d e h1 h2 h3 h4 h5 h6 h7 h8 h9
    rw [← brk_viol h ⟨h1, h2, h3, h4, h5, h6, h7, h8, h9⟩]
    exact hk a b c d e ⟨h1, h2, h3, h4, h5, h6, h7, h8, h9⟩
  · intro hk a b c d e hv
    rw [brk_viol h hv]
    obtain ⟨h1, h2, h3, h4, h5, h6, h7, h8, h9⟩ := hv
    exact hk a b c d e h1 h2 h3 h4 h5 h6 h7 h8 h9
theorem odd3_bits (set i j k : Nat) : odd3 set i j k = (set.testBit i ^^ set.testBit j ^^ set.testBit k) := by
  unfold odd3
  rw [Nat.testBit_eq_decide_div_mod_eq, Nat.testBit_eq_decide_div_mod_eq, Nat.testBit_eq_decide_div_mod_eq, Nat.shiftRight_eq_div_pow, Nat.shiftRight_eq_div_pow, Nat.shiftRight_eq_div_pow]
  generalize set / 2 ^ i = a
  generalize set / 2 ^ j = b
  generalize set / 2 ^ k = c
  rcases Nat.mod_two_eq_zero_or_one a with ha | ha <;> rcases Nat.mod_two_eq_zero_or_one b with hb | hb <;> rcases Nat.mod_two_eq_zero_or_one c with hc | hc <;> rw [ha, hb, hc, Nat.add_mod, Nat.add_mod a b, ha, hb, hc] <;> rfl
theorem pos_bools : ∀ x y z u a b c d : Bool,
    (sgB (x ^^ (b ^^ c ^^ d)) * sgB (x ^^ (b ^^ c ^^ d)) == 1 && (-(sgB (y ^^ (a ^^ c ^^ d))) * sgB (x ^^ (b ^^ c ^^ d)) == 1 && (sgB (z ^^ (a ^^ b ^^ d)) * sgB (x ^^ (b ^^ c ^^ d)) == 1 && -(sgB (u ^^ (a ^^ b ^^ c))) * sgB (x ^^ (b ^^ c ^^ d)) == 1))) =
    (((x ^^ a) && !(y ^^ b) && (z ^^ c) && !(u ^^ d)) || (!(x ^^ a) && (y ^^ b) && !(z ^^ c) && (u ^^ d))) := by decide +kernel
theorem rev_sgB {n : Nat} {s : List UInt8} (h : arB n s = true) (set : Nat) {i j k : Nat} (h1 : i < j) (h2 : j < k) (hk : k < n) : sgnF (revF set (lookS n s)) i j k = sgB (tOf n s i j k ^^ (set.testBit i ^^ set.testBit j ^^ set.testBit k)) := by
  rw [sgnF_rev h1 h2, ← sgnF_plain (f := lookS n s) h1 h2, sg_tOf h h1 h2 hk, odd3_bits]
  cases tOf n s i j k <;> cases (set.testBit i ^^ set.testBit j ^^ set.testBit k) <;> rfl
theorem pos_blk {n : Nat} {s : List UInt8} (h : arB n s = true) (set : Nat) {a b c d : Nat} (h1 : a < b) (h2 : b < c) (h3 : c < d) (h4 : d < n) : posC (sgnF (revF set (lookS n s))) a b c d = blkT (tOf n s) set (a, b, c, d) := by
  unfold posC cir blkT
  simp only []
  rw [rev_sgB h set h2 h3 h4, rev_sgB h set (show a < c by omega) h3 h4, rev_sgB h set h1 (show b < d by omega) h4, rev_sgB h set h1 h2 (by omega)]
  exact pos_bools _ _ _ _ _ _ _ _
theorem quads_has0 : ((List.range 7).all fun n => (List.range n).all fun d => (List.range d).all fun c => (List.range c).all fun b => (List.range b).all fun a => decide (n < 3) || (quads n).contains (a, b, c, d)) = true := by decide +kernel
theorem acS_quads {n : Nat} {s : List UInt8} (h : arB n s = true) (h6 : n ≤ 6) (set : Nat) : acS n s set = !(quads n).any fun q => blkT (tOf n s) set q := by
  obtain ⟨h3, -⟩ := arB_yes h
  have h3 : 3 ≤ n := by omega
  have key : acS n s set = true ↔ ((quads n).any fun q => blkT (tOf n s) set q) = false := by
    unfold acS
    rw [acB_iff (by omega), List.any_eq_false]
    constructor
    · intro hk q hq
      obtain ⟨l1, l2, l3, l4⟩ := quads_lt h3 h6 hq
      have := hk q.1 q.2.1 q.2.2.1 q.2.2.2 l1 l2 l3 l4
      rw [pos_blk h set l1 l2 l3 l4] at this
      rw [this]; simp
    · intro hk a b c d l1 l2 l3 l4
      rw [pos_blk h set l1 l2 l3 l4]
      have hq : (a, b, c, d) ∈ quads n := by
        have := Rul.all_lt (Rul.all_lt (Rul.all_lt (Rul.all_lt (Rul.all_lt quads_has0 (show n < 7 by omega)) l4) l3) l2) l1
        simp only [Bool.or_eq_true, decide_eq_true_eq, List.contains_iff_mem] at this
        rcases this with h0 | h0
        · omega
        · exact h0
      simpa using hk _ hq
  cases ha : acS n s set
  · cases hb : ((quads n).any fun q => blkT (tOf n s) set q)
    · rw [key.2 hb] at ha; cases ha
    · rfl
  · rw [key.1 ha]; rfl
/-- As many acyclic sets as n (n - 1) + 2. -/
theorem setsZ_many {n : Nat} {s : List UInt8} (h : matB n s = true) (h6 : n ≤ 6) : (setsZ n s).length = n * (n - 1) + 2 := by
  have har := matB_ar h
  obtain ⟨h3, -⟩ := arB_yes har
  have hk : Keeps n (tOf n s) := (ok_keeps har).1 (by unfold matB at h; simpa using (Bool.and_eq_true_iff.1 h).2)
  rw [setsZ_yes h, ← many_all (by omega) h6 hk]
  unfold setsTo many
  rw [List.length_map]
  exact filter_congr_lt fun S _ => acS_quads har h6 S
/-- Acyclic signs: the empty set is among the sets. -/
theorem acS_zero {n : Nat} {s : List UInt8} (h : arB n s = true) : acS n s 0 = acB (sgnF (lookS n s)) n := by
  obtain ⟨_, h7, -, -⟩ := arB_yes h
  unfold acS
  refine acB_congr (by omega) fun i j k h1 h2 _ => ?_
  rw [sgnF_rev h1 h2, sgnF_plain h1 h2, odd3_bits]
  simp
theorem setsZ_zero {n : Nat} {s : List UInt8} (h : matB n s = true) (ha : acB (sgnF (lookS n s)) n = true) : (0 : Int) ∈ setsZ n s := by
  rw [setsZ_yes h]
  unfold setsTo
  refine List.mem_map.2 ⟨0, List.mem_filter.2 ⟨List.mem_range.2 (Nat.two_pow_pos n), by rw [acS_zero (matB_ar h)]; exact ha⟩, rfl⟩
theorem violT_same {n : Nat} {t t' : Nat → Nat → Nat → Bool} (ht : ∀ i j k, i < j → j < k → k < n → t i j k = t' i j k) {a b c d e : Nat} (hv : Val n a b c d e) : violT t a b c d e = violT t' a b c d e := by
  obtain ⟨h1, h2, h3, h4, h5, h6, h7, h8, h9⟩ := hv
  have hs : ∀ x y, x < y → y < n → a ≠ x → a ≠ y → tS t a x y = tS t' a x y := fun x y g1 g2 g3 g4 => by
    have e1 : lo a x y < a + x + y - lo a x y - hi a x y ∧ a + x + y - lo a x y - hi a x y < hi a x y ∧ hi a x y < n := by unfold lo hi; omega
    exact ht _ _ _ e1.1 e1.2.1 e1.2.2
  unfold violT
  rw [hs b c h2 (by omega) h6 h7, hs d e h4 h5 h8 h9, hs b e (by omega) h5 h6 h9, hs c d h3 (by omega) h7 h8, hs b d (by omega) (by omega) h6 h8, hs c e (by omega) h5 h7 h9]
/-- Reversing keeps the rule. -/
theorem mat_rev {n : Nat} {s : List UInt8} (h : arB n s = true) (set : Nat) : matB n (text3 n (rvF n s set)) = matB n s := by
  obtain ⟨h3, h7, -, -⟩ := arB_yes h
  have h3 : 3 ≤ n := by omega
  have h7 : n ≤ 7 := by omega
  have har := arB_text h3 h7 (rvF n s set)
  have ht : ∀ i j k, i < j → j < k → k < n → tOf n (text3 n (rvF n s set)) i j k = flipT set (tOf n s) i j k := fun i j k h1 h2 hk => by
    have h0 := sgn_one h (show i < n by omega) (show j < n by omega) hk (show i ≠ j by omega) (show j ≠ k by omega) (show i ≠ k by omega)
    show decide (sgnF (lookS n (text3 n (rvF n s set))) i j k = -1) = (decide (sgnF (lookS n s) i j k = -1) ^^ (set.testBit i ^^ set.testBit j ^^ set.testBit k))
    rw [sgnF_text h3 h7 h1 h2 hk (by unfold rvF; split <;> omega)]
    unfold rvF
    rw [odd3_bits]
    rcases h0 with e | e <;> rw [e] <;> cases (set.testBit i ^^ set.testBit j ^^ set.testBit k) <;> rfl
  have key : Keeps n (tOf n (text3 n (rvF n s set))) ↔ Keeps n (tOf n s) := by
    rw [← keeps_flip (T := set) (t := tOf n s)]
    unfold Keeps
    constructor
    · intro hk a b c d e h1 h2 h3 h4 h5 h6 h7 h8 h9
      rw [← violT_same ht ⟨h1, h2, h3, h4, h5, h6, h7, h8, h9⟩]
      exact hk a b c d e h1 h2 h3 h4 h5 h6 h7 h8 h9
    · intro hk a b c d e h1 h2 h3 h4 h5 h6 h7 h8 h9
      rw [violT_same ht ⟨h1, h2, h3, h4, h5, h6, h7, h8, h9⟩]
      exact hk a b c d e h1 h2 h3 h4 h5 h6 h7 h8 h9
  unfold matB
  rw [har, h, Int.toNat_natCast]
  simp only [Bool.true_and]
  have k1 := ok_keeps har
  have k2 := ok_keeps h
  cases ha : okB (sgnF (lookS n (text3 n (rvF n s set)))) n
  · cases hb : okB (sgnF (lookS n s)) n
    · rfl
    · rw [k1.2 (key.2 (k2.1 hb))] at ha; cases ha
  · exact (k2.2 (key.1 (k1.1 ha))).symm
end Go.Proofs.Ytfjimdmoindepaa.Sg
/- A law's point, or slice of points, as an argument: opened to its numbers and cells. -/
namespace Go.Proofs.Ytfjimdmoindepaa.Pt
open Go.RowKit Go.ChangeShapes Go.WideShapes Go.Deep Go.Joins

/-- A pair of integers that fit. -/
def WfP (p : P2) : Prop := (-9223372036854775808 ≤ p.1 ∧ p.1 ≤ 9223372036854775807) ∧ (-9223372036854775808 ≤ p.2 ∧ p.2 ≤ 9223372036854775807)
/-- The cells from offset o of block b on hold the points xs. -/
def AtP (w : World) (b o : Nat) (xs : List P2) : Prop := ∀ (j : Nat) p, xs[j]? = some p → w.cell? ⟨b, o + j * 2, none⟩ = some (.int .i64 p.1) ∧ w.cell? ⟨b, o + j * 2 + 1, none⟩ = some (.int .i64 p.2)
/-- A slice of points as an argument: its cells, where it has any. -/
def PtsArg (w : World) (v : Value) (xs : List P2) : Prop :=
  ∃ (a : Option Addr) (c : Nat), v = .slice a xs.length c ∧ xs.length ≤ 9223372036854775807 ∧ (∀ p ∈ xs, WfP p) ∧
    (xs.length = 0 ∨ ∃ b o, a = some ⟨b, o, none⟩ ∧ AtP w b o xs ∧ b < w.heap.size ∧ xs.length ≤ c)

section
variable {H : Type} {enc : TypeId × Value → H} {P : Program} {w : World} {base : Nat} {spare : Nat → Bool} {held : Bool}
theorem open_slice_fields {t e : TypeId} {fs : Array Field} {fuel : Nat} {cs : List Value} {x : DataW H × List MemPlace} (ht : P.underlying t = some (.slice e)) (he : P.underlying e = some (.struct fs))
    (hone : oneCellFields P fs = true) (hC : P.cellsOf e = fs.size) (h : DataW.trod enc P w base spare held fuel t cs = some x) :
    (cs = [.slice none 0 0]) ∨
    ∃ (a : Addr) (len cap m : Nat), cs = [.slice (some a) len cap] ∧ len ≤ cap ∧ cap ≤ maxLen ∧ m = (if spare a.block then cap else len) ∧
      ∀ i, i < m → ∀ (j : Nat) (f : Field), fs[j]? = some f → ∃ (v : Value) (n : Nat) (y : DataW H × List MemPlace), w.cell? (a.add (i * fs.size + j)) = some v ∧ DataW.trod enc P w base spare held n f.type [v] = some y := by
  rcases open_slice ht h with h0 | ⟨a, len, cap, m, n, D, Pl, hcs, hb, hl, hm, hmm, hx, hi⟩
  · exact .inl h0.1
  · refine .inr ⟨a, len, cap, m, hcs, hl, hm, hmm, fun i him j f hj => ?_⟩
    obtain ⟨cs', hc, ht'⟩ := hi i him
    rw [hC] at hc
    obtain ⟨ys, n', hn', hy, hlen, hyl, hf⟩ := DataW.trod_struct he ht'
    obtain ⟨_, hcl, hat⟩ := World.cells?_some hc
    obtain ⟨ho, hk⟩ := hone_of hone j f hj
    have hjl : j < fs.size := (Array.getElem?_eq_some_iff.1 hj).1
    have hcell := hat j hjl
    have hv : cs'[j]? = some (cs'[j]'(by omega)) := List.getElem?_eq_getElem (by omega)
    have h1 := hf j f hj
    rw [ho, hk] at h1
    have hone' : (cs'.drop j).take 1 = [cs'[j]'(by omega)] := by
      rw [List.drop_eq_getElem_cons (by omega)]
      rfl
    rw [hone'] at h1
    have hys : ys[j]? = some (ys[j]'(by omega)) := List.getElem?_eq_getElem (by omega)
    refine ⟨_, _, _, ?_, h1.trans hys⟩
    rw [← Go.Deep.add_add, hcell, hv]
end

def ptRead (w : World) (a : Addr) (i : Nat) : P2 := match w.cell? (a.add (i * 2)), w.cell? (a.add (i * 2 + 1)) with
  | some (.int _ x), some (.int _ y) => (x, y)
  | _, _ => (0, 0)
end Go.Proofs.Ytfjimdmoindepaa.Pt
/- Slices of points: what the laws' helpers make of them. -/
namespace Go.Proofs.Ytfjimdmoindepaa.Pt
open Go.RowKit

theorem AtP.get {w : World} {b o : Nat} {xs : List P2} (h : AtP w b o xs) (k : Nat) (hk : k < xs.length) : w.cell? ⟨b, o + k * 2, none⟩ = some (.int .i64 xs[k].1) ∧ w.cell? ⟨b, o + k * 2 + 1, none⟩ = some (.int .i64 xs[k].2) := h k _ (List.getElem?_eq_getElem hk)
theorem AtP.on {w w' : World} {B b o : Nat} {xs : List P2} (h : AtP w b o xs) (hb : Below B w w') (hB : b < B) : AtP w' b o xs := fun j x hx => by rw [hb.cell hB, hb.cell hB]; exact h j x hx

def szN (left : Int) (n : Nat) : Int := if left - n < 0 then -1 else left - n
/-- The cells of a row of points. -/
def ptCell (xs : List P2) (j : Nat) : Value := .int .i64 (if j % 2 = 0 then (xs.getD (j / 2) (0, 0)).1 else (xs.getD (j / 2) (0, 0)).2)
theorem ptCell_even (xs : List P2) (k : Nat) (h : k < xs.length) : ptCell xs (k * 2) = .int .i64 xs[k].1 := by
  unfold ptCell
  rw [if_pos (by omega), show k * 2 / 2 = k by omega, List.getD_eq_getElem?_getD, List.getElem?_eq_getElem h]; rfl
theorem ptCell_odd (xs : List P2) (k : Nat) (h : k < xs.length) : ptCell xs (k * 2 + 1) = .int .i64 xs[k].2 := by
  unfold ptCell
  rw [if_neg (by omega), show (k * 2 + 1) / 2 = k by omega, List.getD_eq_getElem?_getD, List.getElem?_eq_getElem h]; rfl
/-- Of the cells of a row of points those before number m; behind them zeros. -/
def sofar (xs : List P2) (m : Nat) (j : Nat) : Value := if j < m then ptCell xs j else .int .i64 0
theorem AtP.of_row {w : World} {b : Nat} {t : TypeId} {xs : List P2} (h : w.rowIs b t (xs.length * 2) (ptCell xs)) : AtP w b 0 xs := fun j x hx => by
  obtain ⟨hj, rfl⟩ := List.getElem?_eq_some_iff.1 hx
  have h1 := h.cell (show j * 2 < xs.length * 2 by omega)
  have h2 := h.cell (show j * 2 + 1 < xs.length * 2 by omega)
  rw [ptCell_even xs j hj] at h1
  rw [ptCell_odd xs j hj] at h2
  exact ⟨by simpa using h1, by simpa using h2⟩
theorem row_on {w w' : World} {B b : Nat} {t : TypeId} {n : Nat} {f : Nat → Value} (h : w.rowIs b t n f) (hb : Below B w w') (hB : b < B) : w'.rowIs b t n f := h.of_block (hb.block b hB)

theorem madeRow2 (w : World) (z : Value) (n : Nat) (t : TypeId) : (w.alloc (.cells (madeCells #[z, z] n) t)).rowIs w.heap.size t n (fun _ => z) := by
  have h := World.rowIs_alloc w (madeCells #[z, z] n) t (fun _ => z) (fun i hi => by
    rw [size_madeCells] at hi
    have h2 : i % 2 = 0 ∨ i % 2 = 1 := by omega
    rcases h2 with h2 | h2 <;> simp [madeCells, hi, h2])
  rwa [size_madeCells] at h
set_option maxRecDepth 100000 in
theorem infoPt : (Try.prog.info? 97).map (fun i => (i.zero, i.size, i.bytes)) = some (some (.agg #[.int .i64 0, .int .i64 0]), 2, 16) := by kernel_rfl
theorem run_make_pts (n : Nat) (hn : n ≤ 2000000) (w : World) :
    (Instr.makeSlice 79 (.int .i64 (n : Int)) (.int .i64 (n : Int))).run Try.prog w = .ok (.slice (some ⟨w.heap.size, 0, none⟩) n n) (w.alloc (.cells (madeCells #[.int .i64 0, .int .i64 0] (n * 2)) 97)) := by
  obtain ⟨i, hi, hzz⟩ := Option.map_eq_some_iff.1 infoPt
  simp only [Prod.mk.injEq] at hzz
  obtain ⟨hz, hs, hb⟩ := hzz
  have hr := run_make (P := Try.prog) w 79 97 i _ Try.underlying79 hi hz .i64 .i64 n n (by omega) (by omega) (by rw [hb]; omega) (by omega)
  rw [hs] at hr
  exact hr

theorem sofar_step (xs : List P2) (k : Nat) (hlt : k < xs.length) (i : Nat) (_ : i < xs.length * 2) :
    (if i = k * 2 + 1 then Value.int .i64 xs[k].2 else if i = k * 2 then Value.int .i64 xs[k].1 else sofar xs (k * 2) i) = sofar xs ((k + 1) * 2) i := by
  unfold sofar
  by_cases e1 : i = k * 2 + 1
  · subst e1; rw [if_pos rfl, if_pos (by omega), ptCell_odd xs k hlt]
  · rw [if_neg e1]
    by_cases e : i = k * 2
    · subst e; rw [if_pos rfl, if_pos (by omega), ptCell_even xs k hlt]
    · rw [if_neg e]
      by_cases h2 : i < k * 2
      · rw [if_pos h2, if_pos (by omega)]
      · rw [if_neg h2, if_neg (by omega)]
end Go.Proofs.Ytfjimdmoindepaa.Pt
/- eqPointS of two slices that read alike; markPointS and heldPointS. -/
namespace Go.Proofs.Ytfjimdmoindepaa.Pt
open Go.RowKit
theorem lt_of_cell {w : World} {a : Addr} {v : Value} (h : w.cell? a = some v) : a.block < w.heap.size := by
  rcases Nat.lt_or_ge a.block w.heap.size with h1 | h1
  · exact h1
  · simp [World.cell?, Array.getElem?_eq_none h1] at h
/-- A call beside which four cells are read. -/
theorem held4 (w0 : World) (a1 a2 a3 a4 : Addr) (v1 v2 v3 v4 : Value) {f : FuncId} {args : Array Value} {W : World} {v : Value} (h : Calls Try.prog f args W fun e w' => e = .returned v ∧ Below W.heap.size W w')
    (hS : W.cell? a1 = some v1 ∧ W.cell? a2 = some v2 ∧ W.cell? a3 = some v3 ∧ W.cell? a4 = some v4 ∧ Below w0.heap.size w0 W) :
    Calls Try.prog f args W fun e w' => e = .returned v ∧ w'.cell? a1 = some v1 ∧ w'.cell? a2 = some v2 ∧ w'.cell? a3 = some v3 ∧ w'.cell? a4 = some v4 ∧ Below w0.heap.size w0 w' :=
  h.mono fun _ _ ⟨he, hb⟩ => ⟨he, by rw [hb.cell (lt_of_cell hS.1)]; exact hS.1, by rw [hb.cell (lt_of_cell hS.2.1)]; exact hS.2.1, by rw [hb.cell (lt_of_cell hS.2.2.1)]; exact hS.2.2.1, by rw [hb.cell (lt_of_cell hS.2.2.2.1)]; exact hS.2.2.2.1, hS.2.2.2.2.trans (hb.mono hS.2.2.2.2.size)⟩

end Go.Proofs.Ytfjimdmoindepaa.Pt
/- ArePoints, as impl and spec ask it. -/
namespace Go.Proofs.Ytfjimdmoindepaa.Pt
open Go.RowKit
/-- A call beside which six cells are read. -/
theorem held6 (w0 : World) (a1 a2 a3 a4 a5 a6 : Addr) (v1 v2 v3 v4 v5 v6 : Value) {f : FuncId} {args : Array Value} {W : World} {v : Value} (h : Calls Try.prog f args W fun e w' => e = .returned v ∧ Below W.heap.size W w')
    (hS : W.cell? a1 = some v1 ∧ W.cell? a2 = some v2 ∧ W.cell? a3 = some v3 ∧ W.cell? a4 = some v4 ∧ W.cell? a5 = some v5 ∧ W.cell? a6 = some v6 ∧ Below w0.heap.size w0 W) :
    Calls Try.prog f args W fun e w' => e = .returned v ∧ w'.cell? a1 = some v1 ∧ w'.cell? a2 = some v2 ∧ w'.cell? a3 = some v3 ∧ w'.cell? a4 = some v4 ∧ w'.cell? a5 = some v5 ∧ w'.cell? a6 = some v6 ∧ Below w0.heap.size w0 w' := by
  obtain ⟨c1, c2, c3, c4, c5, c6, hB⟩ := hS
  exact h.mono fun _ _ ⟨he, hb⟩ => ⟨he, by rw [hb.cell (lt_of_cell c1)]; exact c1, by rw [hb.cell (lt_of_cell c2)]; exact c2, by rw [hb.cell (lt_of_cell c3)]; exact c3, by rw [hb.cell (lt_of_cell c4)]; exact c4, by rw [hb.cell (lt_of_cell c5)]; exact c5, by rw [hb.cell (lt_of_cell c6)]; exact c6, hB.trans (hb.mono hB.size)⟩

/-- The first k points fit. -/
def FitAll (xs : List P2) (k : Nat) : Prop := ∀ (j : Nat) p, j < k → xs[j]? = some p → fit p 50 = true
theorem FitAll.zero (xs : List P2) : FitAll xs 0 := fun j p h => by omega
theorem FitAll.step {xs : List P2} {k : Nat} (h : FitAll xs k) {p : P2} (hp : xs[k]? = some p) (hf : fit p 50 = true) : FitAll xs (k + 1) := fun j q hj hq => by
  by_cases e : j = k
  · subst e; rw [hp] at hq; cases hq; exact hf
  · exact h j q (by omega) hq
theorem FitAll.all {xs : List P2} (h : FitAll xs xs.length) : ∀ p ∈ xs, fit p 50 = true := fun p hp => by
  obtain ⟨i, hi, rfl⟩ := List.mem_iff_getElem.1 hp
  exact h i _ hi (List.getElem?_eq_getElem hi)

set_option maxRecDepth 100000 in
theorem specAre_short (a : Option Addr) (n c : Nat) (hn : ¬ (3 ≤ n ∧ n ≤ 7)) (hn2 : n ≤ 9223372036854775807) (w : World) :
    Calls Try.prog 75 #[.slice a n c] w fun e w' => e = .returned (.bool false) ∧ w = w' := by
  have hB : inB n 3 7 = false := by simp [inB]; omega
  go_enter Try.func75, Try.ntmps75
  go_wp2_with fail
  refine (l1In_any _ _ _ _).mono ?_
  rintro e w' ⟨rfl, rfl⟩
  go_wp2
  go_ret
  exact ⟨rfl, rfl⟩

set_option maxHeartbeats 1600000 in
set_option maxRecDepth 100000 in
theorem specAre_any (b o c : Nat) (xs : List P2) (hx : 3 ≤ xs.length) (hx7 : xs.length ≤ 7) (w : World) (hc : AtP w b o xs) (hbw : b < w.heap.size) :
    Calls Try.prog 75 #[.slice (some ⟨b, o, none⟩) xs.length c] w fun e w' => e = .returned (.bool (okB xs)) ∧ Below w.heap.size w w' := by
  have hB : inB xs.length 3 7 = true := by simp [inB]; omega
  go_enter Try.func75, Try.ntmps75
  go_wp2_with fail
  refine (l1In_any _ _ _ _).mono ?_
  rintro e w' ⟨rfl, rfl⟩
  go_wp2
  go_loopw [3] (fun i wr => ∃ k : Nat, k ≤ xs.length ∧ i = .int .i64 k ∧ Hid (FitAll xs k) ∧ Hid (noLine xs k 0 0) ∧ Below w.heap.size w wr) (fun i _ => xs.length - (intOf i).toNat)
  case atStart => exact ⟨0, Nat.zero_le _, rfl, Lib.hid (FitAll.zero xs), Lib.hid (noLine_zero xs), Below.refl _ _⟩
  case round =>
    obtain ⟨k, hk, rfl, HF, HN, hb⟩ := hrel
    by_cases hlt : k < xs.length
    · obtain ⟨ax, ay⟩ := (hc.on hb hbw).get k hlt
      have ha? := List.getElem?_eq_getElem hlt
      have hm := List.getElem_mem hlt
      have HC := Lib.hid ha?
      generalize xs[k] = q at ax ay ha? hm HC
      cases hf : fitB q.1 q.2 50
      · have HE := Lib.hid (okB_fit hm hf)
        clear hm ha?
        go_wp2_with fail
        refine (l2Fits_any _ _ _ (by omega) (by omega) _).mono ?_
        rintro e w1 ⟨rfl, hb1⟩
        have B2 := hb.trans (hb1.mono hb.size)
        go_wp2
        go_ret
        exact ⟨ret_bool HE.out.symm, B2⟩
      · have HS := Lib.hid (HF.out.step ha? hf)
        have HQ := Lib.hid hf
        clear hm ha?
        go_wp2_with fail
        refine (l2Fits_any _ _ _ (by omega) (by omega) _).mono ?_
        rintro e w1 ⟨rfl, hb1⟩
        have B2 := hb.trans (hb1.mono hb.size)
        clear ax ay hb
        go_wp2
        clear hf
        go_loopw [4] (fun i wr => ∃ j : Nat, j ≤ k ∧ i = .int .i64 j ∧ Hid (noLine xs k j 0) ∧ Below w.heap.size w wr) (fun i _ => k - (intOf i).toNat)
        case atStart => exact ⟨0, Nat.zero_le _, rfl, HN, B2⟩
        case round =>
          obtain ⟨j, hj, rfl, HN, hb⟩ := hrel
          by_cases hltj : j < k
          · go_wp2
            go_loopw [5] (fun i wr => ∃ i' : Nat, i' ≤ j ∧ i = .int .i64 i' ∧ Hid (noLine xs k j i') ∧ Below w.heap.size w wr) (fun i _ => j - (intOf i).toNat)
            case atStart => exact ⟨0, Nat.zero_le _, rfl, HN, hb⟩
            case round =>
              obtain ⟨i, hi, rfl, HN, hb⟩ := hrel
              by_cases hlti : i < j
              · have hi1 : i < xs.length := by omega
                have hj1 : j < xs.length := by omega
                obtain ⟨ax, ay⟩ := (hc.on hb hbw).get i hi1
                obtain ⟨bx, by_⟩ := (hc.on hb hbw).get j hj1
                obtain ⟨cx, cy⟩ := (hc.on hb hbw) k q HC.out
                have ha? := List.getElem?_eq_getElem hi1
                have hb? := List.getElem?_eq_getElem hj1
                have fa := HS.out i _ (by omega) ha?
                have fb := HS.out j _ (by omega) hb?
                generalize xs[i] = a at ax ay ha? fa
                generalize xs[j] = p at bx by_ hb? fb
                obtain ⟨z, hzt⟩ : ∃ z, z = crs a.1 a.2 p.1 p.2 q.1 q.2 := ⟨_, rfl⟩
                have HT : ∀ W, Calls Try.prog 76 #[.agg #[.int .i64 a.1, .int .i64 a.2], .agg #[.int .i64 p.1, .int .i64 p.2], .agg #[.int .i64 q.1, .int .i64 q.2]] W fun e w' => e = .returned (.int .i64 z) ∧ Below W.heap.size W w' := by
                  intro W; rw [hzt]; exact l2Area_any _ _ _ _ _ _ (fit_mono fa (by omega)) (fit_mono fb (by omega)) (fit_mono (p := q) HQ.out (by omega)) W
                have HT := Lib.hid HT
                by_cases hz : cross a p q = 0
                · have HL := Lib.hid (okB_line hlti hltj ha? hb? HC.out hz)
                  have hz0 : z = 0 := hzt.trans hz
                  subst hz0
                  clear ha? hb? fa fb hz hzt
                  go_wp2
                  go_region_held3 (fun W => W.cell? ⟨b, o + i * 2, none⟩ = some (.int .i64 a.1) ∧ W.cell? ⟨b, o + i * 2 + 1, none⟩ = some (.int .i64 a.2) ∧ W.cell? ⟨b, o + j * 2, none⟩ = some (.int .i64 p.1) ∧ W.cell? ⟨b, o + j * 2 + 1, none⟩ = some (.int .i64 p.2) ∧ W.cell? ⟨b, o + k * 2, none⟩ = some (.int .i64 q.1) ∧ W.cell? ⟨b, o + k * 2 + 1, none⟩ = some (.int .i64 q.2) ∧ Below w.heap.size w W) (first | exact ⟨ax, ay, bx, by_, cx, cy, hb⟩ | exact ⟨ax, ay, bx, by_, cx, cy, hb.drew⟩ | (refine ⟨?_, ?_, ?_, ?_, ?_, ?_, ?_⟩ <;> assumption))
                    (first | (go_at_call 76; refine (held6 w ⟨b, o + i * 2, none⟩ ⟨b, o + i * 2 + 1, none⟩ ⟨b, o + j * 2, none⟩ ⟨b, o + j * 2 + 1, none⟩ ⟨b, o + k * 2, none⟩ ⟨b, o + k * 2 + 1, none⟩ (.int .i64 a.1) (.int .i64 a.2) (.int .i64 p.1) (.int .i64 p.2) (.int .i64 q.1) (.int .i64 q.2) (HT.out _) ?_).mono ?_; (first | exact ⟨ax, ay, bx, by_, cx, cy, hb⟩ | exact ⟨ax, ay, bx, by_, cx, cy, hb.drew⟩ | (refine ⟨?_, ?_, ?_, ?_, ?_, ?_, ?_⟩ <;> assumption)); rintro e w' ⟨rfl, c1, c2, c3, c4, c5, c6, c7⟩))
                  go_wp2
                  go_ret
                  exact ⟨ret_bool HL.out.symm, by assumption⟩
                · have HM := Lib.hid (noLine_step HN.out ha? hb? HC.out hz)
                  have hz0 : (z == 0) = false := by rw [hzt]; exact beq_eq_false_iff_ne.2 hz
                  clear ha? hb? fa fb hz hzt
                  go_wp2
                  go_region_held3 (fun W => W.cell? ⟨b, o + i * 2, none⟩ = some (.int .i64 a.1) ∧ W.cell? ⟨b, o + i * 2 + 1, none⟩ = some (.int .i64 a.2) ∧ W.cell? ⟨b, o + j * 2, none⟩ = some (.int .i64 p.1) ∧ W.cell? ⟨b, o + j * 2 + 1, none⟩ = some (.int .i64 p.2) ∧ W.cell? ⟨b, o + k * 2, none⟩ = some (.int .i64 q.1) ∧ W.cell? ⟨b, o + k * 2 + 1, none⟩ = some (.int .i64 q.2) ∧ Below w.heap.size w W) (first | exact ⟨ax, ay, bx, by_, cx, cy, hb⟩ | exact ⟨ax, ay, bx, by_, cx, cy, hb.drew⟩ | (refine ⟨?_, ?_, ?_, ?_, ?_, ?_, ?_⟩ <;> assumption))
                    (first | (go_at_call 76; refine (held6 w ⟨b, o + i * 2, none⟩ ⟨b, o + i * 2 + 1, none⟩ ⟨b, o + j * 2, none⟩ ⟨b, o + j * 2 + 1, none⟩ ⟨b, o + k * 2, none⟩ ⟨b, o + k * 2 + 1, none⟩ (.int .i64 a.1) (.int .i64 a.2) (.int .i64 p.1) (.int .i64 p.2) (.int .i64 q.1) (.int .i64 q.2) (HT.out _) ?_).mono ?_; (first | exact ⟨ax, ay, bx, by_, cx, cy, hb⟩ | exact ⟨ax, ay, bx, by_, cx, cy, hb.drew⟩ | (refine ⟨?_, ?_, ?_, ?_, ?_, ?_, ?_⟩ <;> assumption)); rintro e w' ⟨rfl, c1, c2, c3, c4, c5, c6, c7⟩))
                  go_wp2
                  exact ⟨⟨i + 1, by omega, by go_num, HM, by assumption⟩, by simp only [intOf]; omega⟩
              · obtain rfl : i = j := by omega
                have HM := Lib.hid (noLine_inner HN.out)
                go_wp2
                exact ⟨⟨i + 1, by omega, by go_num, HM, hb⟩, by simp only [intOf]; omega⟩
          · obtain rfl : j = k := by omega
            have HM := Lib.hid (noLine_outer HN.out)
            go_wp2
            exact ⟨⟨j + 1, by omega, by go_num, HS, HM, hb⟩, by simp only [intOf]; omega⟩
    · obtain rfl : k = xs.length := by omega
      have HL := Lib.hid (okB_yes ⟨⟨hx, hx7⟩, HF.out.all, noLine_all HN.out⟩)
      go_wp2
      go_ret
      exact ⟨ret_bool HL.out.symm, hb⟩
theorem specAre (b o c : Nat) (xs : List P2) (hx : xs.length ≤ 9223372036854775807) (w : World) (hc : AtP w b o xs) (hbw : b < w.heap.size) :
    Calls Try.prog 75 #[.slice (some ⟨b, o, none⟩) xs.length c] w fun e w' => e = .returned (.bool (okB xs)) ∧ Below w.heap.size w w' := by
  by_cases hl : 3 ≤ xs.length ∧ xs.length ≤ 7
  · exact specAre_any b o c xs hl.1 hl.2 w hc hbw
  · rw [okB_len hl]; exact (specAre_short _ _ _ hl hx w).mono fun _ _ ⟨he, hw⟩ => ⟨he, by subst hw; exact Below.refl _ _⟩
end Go.Proofs.Ytfjimdmoindepaa.Pt
/- A slice of points that came in, empty or not: its copy, its length. -/
namespace Go.Proofs.Ytfjimdmoindepaa.Pt
open Go.RowKit
/-- Where the points of a slice that came in lie. -/
def Src (w : World) (a : Option Addr) (c : Nat) (xs : List P2) : Prop := xs.length = 0 ∨ ∃ b o, a = some ⟨b, o, none⟩ ∧ AtP w b o xs ∧ b < w.heap.size ∧ xs.length ≤ c
theorem Src.on {w w' : World} {a : Option Addr} {c : Nat} {xs : List P2} (h : Src w a c xs) (hb : Below w.heap.size w w') : Src w' a c xs := by
  rcases h with h | ⟨b, o, h1, h2, h3, h4⟩
  · exact .inl h
  · exact .inr ⟨b, o, h1, h2.on hb h3, Nat.lt_of_lt_of_le h3 hb.size, h4⟩
theorem szN_neg {left : Int} {n : Nat} (h : left < n) : szN left n = -1 := by unfold szN; rw [if_pos (by omega)]
theorem szN_pos {left : Int} {n : Nat} (h : (n : Int) ≤ left) : szN left n = left - n := by unfold szN; rw [if_neg (by omega)]
/-- Block b is a row of the points xs. -/
def RowP (w : World) (b : Nat) (xs : List P2) : Prop := w.rowIs b 97 (xs.length * 2) (ptCell xs)
theorem RowP.at {w : World} {b : Nat} {xs : List P2} (h : RowP w b xs) : AtP w b 0 xs := AtP.of_row h
theorem RowP.lt {w : World} {b : Nat} {xs : List P2} (h : RowP w b xs) : b < w.heap.size := World.rowIs.lt h
theorem RowP.on {w w' : World} {b : Nat} {xs : List P2} (h : RowP w b xs) (hb : Below w.heap.size w w') : RowP w' b xs := row_on h hb h.lt
theorem rowP_drewN {w : World} {b : Nat} {xs : List P2} (h : RowP w b xs) (n : Nat) : RowP (w.drewN n) b xs := h
theorem below_drewN {B : Nat} {a w : World} (h : Below B a w) (n : Nat) : Below B a (w.drewN n) := ⟨h.os, h.tape, h.output, h.size, h.block⟩
end Go.Proofs.Ytfjimdmoindepaa.Pt
/- SignsOf, as impl and spec answer it. -/
namespace Go.Proofs.Ytfjimdmoindepaa.Sg
open Go.RowKit Pt
/-- The turn of three of these points, and twice their area. -/
def turnF (xs : List P2) (i j k : Nat) : Int := turnB (xs.getD i (0, 0)).1 (xs.getD i (0, 0)).2 (xs.getD j (0, 0)).1 (xs.getD j (0, 0)).2 (xs.getD k (0, 0)).1 (xs.getD k (0, 0)).2
def areaF (xs : List P2) (i j k : Nat) : Int := crs (xs.getD i (0, 0)).1 (xs.getD i (0, 0)).2 (xs.getD j (0, 0)).1 (xs.getD j (0, 0)).2 (xs.getD k (0, 0)).1 (xs.getD k (0, 0)).2
theorem getD_p {xs : List P2} {i : Nat} (h : i < xs.length) : xs.getD i (0, 0) = xs[i] := by rw [List.getD_eq_getElem?_getD, List.getElem?_eq_getElem h]; rfl
theorem byteOf_sgn (x : Int) : byteOf (sgn x) = byteOf x := by
  unfold byteOf sgn
  by_cases h : 0 < x
  · simp [h]
  · by_cases h2 : x < 0
    · simp [h, h2]
    · simp [h, h2]
theorem text3_bytes {n : Nat} (h7 : n ≤ 7) {f g : Nat → Nat → Nat → Int} (h : ∀ i j k, i < j → j < k → k < n → byteOf (f i j k) = byteOf (g i j k)) : text3 n f = text3 n g := by
  unfold text3
  refine List.map_congr_left fun t ht => ?_
  obtain ⟨h1, h2, h3⟩ := threes_mem h7 ht
  exact h _ _ _ h1 h2 h3
theorem text_points {xs : List P2} (h : Pt.okB xs = true) : text3 xs.length (areaF xs) = text3 xs.length (turnF xs) := by
  obtain ⟨⟨-, h7⟩, hfit, -⟩ := okB_ok h
  refine text3_bytes h7 fun i j k h1 h2 h3 => ?_
  have f : ∀ {i : Nat} (hi : i < xs.length), fitB (xs.getD i (0, 0)).1 (xs.getD i (0, 0)).2 1000 = true := fun {i} hi => by
    rw [getD_p hi]
    exact fit_mono (hfit _ (List.getElem_mem hi)) (by omega)
  unfold turnF turnB
  rw [byteOf_sgn, areaB_yes (f (by omega)) (f (by omega)) (f h3)]
  rfl
/-- What SignsOf answers. -/
noncomputable def ptsV (xs : List P2) : Value := if Pt.okB xs = true then .tuple #[sg xs.length ⟨(text3 xs.length (turnF xs)).toArray⟩, .bool true] else .tuple #[sg 0 ⟨#[]⟩, .bool false]
theorem ptsV_no {xs : List P2} (h : Pt.okB xs = false) : ptsV xs = .tuple #[sg 0 ⟨#[]⟩, .bool false] := by unfold ptsV; rw [h]; rfl
theorem ptsV_yes {xs : List P2} (h : Pt.okB xs = true) : ptsV xs = .tuple #[sg xs.length ⟨(text3 xs.length (turnF xs)).toArray⟩, .bool true] := by unfold ptsV; rw [if_pos h]
end Go.Proofs.Ytfjimdmoindepaa.Sg
