/- A region that draws its order and ends by one operation that waits for all others (a store into a cell that the region reads): all but the last under a condition on the world, then the last. -/
import Derived.Test.YtfjimdmoindepaaProg
import Derived.WalkKit
import Derived.OrdersHeld
import Derived.Deep.RegionHeld
namespace Go.Proofs.Ytfjimdmoindepaa.Last
open Go
section
variable {P : Program} {Q : Exit → Act → World → Prop}
/-- What is asked behind all operations but the last: the last one. -/
def lastQ (P : Program) (ops : Array Oper) (o : Oper) (Q : Exit → Act → World → Prop) : Exit → Act → World → Prop
  | .normal, a, w => wpList P ops Q [o] a w
  | .panic c, a, w => Q (.panic c) a w
  | .outgrown, a, w => Q .outgrown a w
  | _, _, _ => False
/-- Each operation waits for, and is guarded by, earlier ones alone. -/
def edgesB : Nat → List Oper → Bool
  | _, [] => true
  | k, o :: r => o.after.all (fun e => decide (e.on < k)) && (match o.guard with | some (g, _) => decide (g < k) | none => true) && edgesB (k + 1) r
def lastB (l : List Oper) (o : Oper) : Bool :=
  edgesB 0 l && o.after.all (fun e => decide (e.on < l.length)) && (List.range l.length).all (fun i => o.after.any fun e => Region.binds .any e && e.on == i)
theorem edges_spec : ∀ (l : List Oper) (k : Nat), edgesB k l = true → ∀ (i : Nat) (o : Oper), l[i]? = some o → (∀ e ∈ o.after, e.on < k + i) ∧ ∀ g b, o.guard = some (g, b) → g < k + i
  | [], _, _, i, o, h => by simp at h
  | x :: r, k, hB, 0, o, h => by
    simp only [List.getElem?_cons_zero, Option.some.injEq] at h
    subst h
    simp only [edgesB, Bool.and_eq_true, Array.all_eq_true_iff_forall_mem, decide_eq_true_eq] at hB
    refine ⟨hB.1.1, fun g b hg => ?_⟩
    have h2 := hB.1.2
    rw [hg] at h2
    simpa using h2
  | x :: r, k, hB, i + 1, o, h => by
    simp only [edgesB, Bool.and_eq_true] at hB
    have := edges_spec r (k + 1) hB.2 i o (by simpa using h)
    rw [show k + (i + 1) = k + 1 + i by omega]
    exact this
theorem get_l {l : List Oper} {o : Oper} {i : Nat} (h : i < l.length) : (l ++ [o]).toArray[i]? = l.toArray[i]? := by
  simp [List.getElem?_append_left h]
theorem get_o {l : List Oper} {o : Oper} : (l ++ [o]).toArray[l.length]? = some o := by simp
theorem wanted_same {l : List Oper} {o o' : Oper} (h : ∀ g b, o'.guard = some (g, b) → g < l.length) (t : Array Value) : Region.wanted o' (yielded (l ++ [o]).toArray t) = Region.wanted o' (yielded l.toArray t) := by
  unfold Region.wanted
  cases hg : o'.guard with
  | none => rfl
  | some q =>
    obtain ⟨g, b⟩ := q
    have := h g b hg
    simp only [yielded, get_l this]
theorem upon_last (o' : Oper) (a : Act) (K : Act → World → Prop) (ops : Array Oper) (o : Oper) (r : Result Next) : o'.upon P a K (lastQ P ops o Q) r = o'.upon P a K Q r := by
  cases r with
  | ok n w => cases n <;> rfl
  | halt x w => cases x <;> rfl
theorem wpOp_last {l : List Oper} {o : Oper} {i : Nat} (hi : i < l.length) (hg : ∀ o', l[i]? = some o' → ∀ g b, o'.guard = some (g, b) → g < l.length) {K K' : Act → World → Prop} (hK : ∀ a w, K a w → K' a w) {a : Act} {w : World}
    (h : wpOp P l.toArray (lastQ P (l ++ [o]).toArray o Q) i K a w) : wpOp P (l ++ [o]).toArray Q i K' a w := by
  refine wpOp_mono hK ?_
  unfold wpOp at *
  rw [get_l hi]
  cases ho : l.toArray[i]? with
  | none => rw [ho] at h; exact h
  | some o' =>
    rw [ho] at h
    simp only [] at h ⊢
    rw [wanted_same (hg o' (by simpa using ho))]
    split
    · rename_i hw
      rw [if_pos hw] at h
      unfold Oper.wp at *
      rw [upon_last] at h
      exact h
    · rename_i hw
      rw [if_neg hw] at h
      exact h
theorem getD_push {listed : Array Bool} {i : Nat} (d : Bool) (h : i < listed.size) : (listed.push false).getD i d = listed.getD i d := by
  simp [Array.getD_eq_getD_getElem?, Array.getElem?_push, show i ≠ listed.size by omega]
theorem all_listed {l : List Oper} (hE : edgesB 0 l = true) {listed : Array Bool} (hs : listed.size = l.length) (hr : Region.ready .any l.toArray listed = []) : ∀ i, i < l.length → listed.getD i false = true := by
  intro i
  induction i using Nat.strongRecOn with
  | ind i ih =>
    intro hi
    cases hl : listed.getD i false with
    | true => rfl
    | false =>
      have hl2 : listed.getD i true = false := by
        rw [Array.getD_eq_getD_getElem?] at hl ⊢
        rw [Array.getElem?_eq_getElem (by omega)] at hl ⊢
        simpa using hl
      have ho := List.getElem?_eq_getElem hi
      obtain ⟨h1, -⟩ := edges_spec l 0 hE i _ ho
      have : i ∈ Region.ready .any l.toArray listed := mem_ready.2 ⟨hl2, l[i], by rw [List.getElem?_toArray]; exact ho, fun e he _ => ih e.on (by have := h1 e he; omega) (by have := h1 e he; omega)⟩
      rw [hr] at this
      cases this
theorem any_last {l : List Oper} {o : Oper} (hB : lastB l o = true) :
    ∀ (fuel : Nat) (listed : Array Bool) (a : Act) (w : World), listed.size = l.length → wpAny P .any l.toArray (lastQ P (l ++ [o]).toArray o Q) fuel listed a w → wpAny P .any (l ++ [o]).toArray Q (fuel + 1) (listed.push false) a w := by
  simp only [lastB, Bool.and_eq_true, Array.all_eq_true_iff_forall_mem, decide_eq_true_eq, List.all_eq_true, List.mem_range, Array.any_eq_true', beq_iff_eq] at hB
  obtain ⟨⟨hE, hO⟩, hW⟩ := hB
  have hgd : ∀ (i : Nat) (o' : Oper), l[i]? = some o' → ∀ g b, o'.guard = some (g, b) → g < l.length := fun i o' h g b hg => by
    have := (edges_spec l 0 hE i o' h).2 g b hg
    have := (List.getElem?_eq_some_iff.1 h).1
    omega
  -- where all but the last are listed
  have fin : ∀ (fuel : Nat) (listed : Array Bool) (a : Act) (w : World), listed.size = l.length → (∀ i, i < l.length → listed.getD i false = true) → wpList P (l ++ [o]).toArray Q [o] a w → wpAny P .any (l ++ [o]).toArray Q (fuel + 1) (listed.push false) a w := by
    intro fuel listed a w hs hall h
    have hmem : ∀ j, j ∈ Region.ready .any (l ++ [o]).toArray (listed.push false) → j = l.length := fun j hj => by
      obtain ⟨h1, o', ho', -⟩ := mem_ready.1 hj
      have hj2 : j < l.length + 1 := by have := (Array.getElem?_eq_some_iff.1 ho').1; simpa using this
      rcases Nat.lt_or_ge j l.length with h2 | h2
      · have := hall j h2
        rw [getD_push _ (by omega)] at h1
        rw [Array.getD_eq_getD_getElem?, Array.getElem?_eq_getElem (by omega)] at this h1
        simp at this h1
        rw [this] at h1
        cases h1
      · omega
    have hin : l.length ∈ Region.ready .any (l ++ [o]).toArray (listed.push false) := mem_ready.2 ⟨by rw [Array.getD_eq_getD_getElem?, ← hs, Array.getElem?_push_size]; rfl, o, get_o, fun e he _ => by rw [getD_push _ (by have := hO e he; omega)]; exact hall _ (hO e he)⟩
    have hdone : Region.ready .any (l ++ [o]).toArray ((listed.push false).setIfInBounds l.length true) = [] := by
      refine List.eq_nil_iff_forall_not_mem.2 fun j hj => ?_
      obtain ⟨h1, o', ho', -⟩ := mem_ready.1 hj
      have hj2 : j < l.length + 1 := by have := (Array.getElem?_eq_some_iff.1 ho').1; simpa using this
      rcases Nat.lt_or_ge j l.length with h2 | h2
      · rw [getD_set_ne true (by omega), getD_push _ (by omega)] at h1
        have := hall j h2
        rw [Array.getD_eq_getD_getElem?, Array.getElem?_eq_getElem (by omega)] at this h1
        simp at this h1
        rw [this] at h1
        cases h1
      · obtain rfl : j = l.length := by omega
        rw [Array.getD_eq_getD_getElem?, Array.getElem?_setIfInBounds] at h1
        simp [hs] at h1
    refine ⟨fun h0 => by rw [h0] at hin; (cases hin), fun i hi => ?_⟩
    obtain rfl := hmem i hi
    have hend : ∀ a w, Q .normal a w → wpAny P .any (l ++ [o]).toArray Q fuel ((listed.push false).setIfInBounds l.length true) a w := fun a w hq => by
      cases fuel with
      | zero => exact ⟨hdone, hq⟩
      | succ f => exact ⟨fun _ => hq, fun j hj => by rw [hdone] at hj; cases hj⟩
    refine wpOp_mono hend ?_
    unfold wpOp
    rw [get_o]
    exact h
  intro fuel
  induction fuel with
  | zero =>
    intro listed a w hs h
    exact fin 0 listed a w hs (all_listed hE hs h.1) h.2
  | succ fuel ih =>
    intro listed a w hs h
    by_cases hr : Region.ready .any l.toArray listed = []
    · exact fin (fuel + 1) listed a w hs (all_listed hE hs hr) (h.1 hr)
    · obtain ⟨i0, hi0⟩ : ∃ i0, i0 ∈ Region.ready .any l.toArray listed := List.exists_mem_of_ne_nil _ hr
      obtain ⟨u0, oi, hoi, w0⟩ := mem_ready.1 hi0
      have hl0 : i0 < l.length := by have := (Array.getElem?_eq_some_iff.1 hoi).1; simpa using this
      have key : ∀ j, j ∈ Region.ready .any (l ++ [o]).toArray (listed.push false) → j < l.length ∧ j ∈ Region.ready .any l.toArray listed := fun j hj => by
        obtain ⟨h1, o', ho', h2⟩ := mem_ready.1 hj
        have hj2 : j < l.length + 1 := by have := (Array.getElem?_eq_some_iff.1 ho').1; simpa using this
        rcases Nat.lt_or_ge j l.length with h3 | h3
        · refine ⟨h3, mem_ready.2 ⟨by rw [getD_push _ (by omega)] at h1; exact h1, o', by rw [get_l h3] at ho'; exact ho', fun e he hb => ?_⟩⟩
          have hlt : e.on < l.length := by have := (edges_spec l 0 hE j o' (by rw [get_l h3] at ho'; simpa using ho')).1 e he; omega
          have := h2 e he hb
          rw [getD_push _ (by omega)] at this
          exact this
        · obtain rfl : j = l.length := by omega
          rw [get_o] at ho'
          obtain rfl := Option.some.inj ho'
          obtain ⟨e, he, hb, hon⟩ := hW i0 hl0
          have := h2 e he hb
          rw [hon, getD_push _ (by omega)] at this
          rw [Array.getD_eq_getD_getElem?, Array.getElem?_eq_getElem (by omega)] at this u0
          simp at this u0
          rw [this] at u0
          cases u0
      have hi0L : i0 ∈ Region.ready .any (l ++ [o]).toArray (listed.push false) := mem_ready.2 ⟨by rw [getD_push _ (by omega)]; exact u0, oi, by rw [get_l hl0]; exact hoi, fun e he hb => by
        have hlt : e.on < l.length := by have := (edges_spec l 0 hE i0 oi (by simpa using hoi)).1 e he; omega
        rw [getD_push _ (by omega)]
        exact w0 e he hb⟩
      refine ⟨fun h0 => by rw [h0] at hi0L; (cases hi0L), fun i hi => ?_⟩
      obtain ⟨hil, hir⟩ := key i hi
      refine wpOp_last hil (fun o' ho' => hgd i o' ho') (fun a' w' h' => ?_) (h.2 i hir)
      have := ih (listed.setIfInBounds i true) a' w' (by simpa using hs) h'
      have e : (listed.setIfInBounds i true).push false = (listed.push false).setIfInBounds i true := by
        apply Array.toList_inj.1
        rw [Array.toList_push, Array.toList_setIfInBounds, Array.toList_setIfInBounds, Array.toList_push, List.set_append_left _ _ (by simp; omega)]
      rw [← e]
      exact this
/-- The beginning: all but the last under S, then the last. -/
theorem wp_region_last {S : World → Prop} {id : Nat} {a : Act} {w : World} (l : List Oper) (o : Oper) (hm : P.follows .mixedOrders = true) (hB : lastB l o = true) (hS : S w.drew)
    (h : S w.drew → wpAnyH P .any l.toArray (lastQ P (l ++ [o]).toArray o Q) S l.toArray.size (Array.replicate l.toArray.size false) a w.drew) : (Code.region id (l ++ [o]).toArray true).wp P Q a w := by
  refine wp_region_any hm ?_
  have h1 := any_last hB l.toArray.size (Array.replicate l.toArray.size false) a w.drew (by simp) (wpAny_of_held _ _ _ _ (h hS))
  have e1 : (l ++ [o]).toArray.size = l.toArray.size + 1 := by simp
  have e2 : Array.replicate (l.toArray.size + 1) false = (Array.replicate l.toArray.size false).push false := by
    rw [Array.replicate_succ]
  rw [e1, e2]
  exact h1
theorem wp_region_last' {S : World → Prop} {id : Nat} {a : Act} {w : World} {l : List Oper} (n : Nat) (o : Oper) (hl : l.drop n = [o]) (hn : (l.take n).length = n) (hm : P.follows .mixedOrders = true) (hB : lastB (l.take n) o = true) (hS : S w.drew)
    (h : S w.drew → wpAnyH P .any (l.take n).toArray (lastQ P l.toArray o Q) S n (Array.replicate n false) a w.drew) : (Code.region id l.toArray true).wp P Q a w := by
  have e : l = l.take n ++ [o] := by rw [← hl]; exact (List.take_append_drop n l).symm
  have h2 := wp_region_last (P := P) (Q := Q) (S := S) (id := id) (a := a) (w := w) (l.take n) o hm hB hS (by
    rw [← e]
    have hz : (l.take n).toArray.size = n := by simpa using hn
    rw [hz]
    exact h)
  rwa [← e] at h2
end
end Go.Proofs.Ytfjimdmoindepaa.Last
