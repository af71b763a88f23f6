/- Several texts in one: HuHull, HuCycle, HuSum, HuFilt. -/
import Derived.Test.YtinlnafkmoabbaaDoorMgH
import Derived.Test.YtinlnafkmoabbaaDoorMgO
import Derived.WalkSpells
import Derived.Lib.SliceRun
import Derived.Test.YtinlnafkmoabbaaDoorProg
import Derived.WalkKit
import Derived.OrdersHeld
import Derived.Deep.RegionHeld
/- Hulls, as spec tells them: HullOf. -/
namespace Go.Proofs.YtinlnafkmoabbaaDoor.Sg
open Go.RowKit Pt NewI NewII
/-- The first element of a set from k on. -/
def lowB (x : Nat) : Nat → Nat → Nat
  | 0, k => k
  | f + 1, k => if x.testBit k = true then k else lowB x f (k + 1)
def firstS (x : Nat) : Nat := lowB x 7 0
/-- The hull from an element on, f elements at most. -/
def hullGo (nx : Nat → Int) (first : Nat) : Nat → Nat → List Int
  | 0, _ => []
  | f + 1, a => (a : Int) :: (if nx a = (first : Int) ∨ nx a < 0 then [] else hullGo nx first f (nx a).toNat)
theorem hullGo_stop {nx : Nat → Int} {first f a : Nat} (h : nx a = (first : Int) ∨ nx a < 0) : hullGo nx first (f + 1) a = [(a : Int)] := by
  show _ :: (if _ then _ else _) = _
  rw [if_pos h]
theorem hullGo_on {nx : Nat → Int} {first f a b : Nat} (h : ¬ (nx a = (first : Int) ∨ nx a < 0)) (hb : nx a = (b : Int)) : hullGo nx first (f + 1) a = (a : Int) :: hullGo nx first f b := by
  show _ :: (if _ then _ else _) = _
  rw [if_neg h, hb, Int.toNat_natCast]
end Go.Proofs.YtinlnafkmoabbaaDoor.Sg
/- Hulls on plain functions: HullOf's list is the extreme elements, each once, each with all others to the left of it and the next one. -/
namespace Go.Proofs.YtinlnafkmoabbaaDoor.Sg
/-- Different numbers below n are n at most. -/
theorem nodup_le : ∀ (n : Nat) (L : List Nat), L.Nodup → (∀ x ∈ L, x < n) → L.length ≤ n
  | 0, L, _, h => by
    cases L with
    | nil => exact Nat.le_refl _
    | cons a l => exact absurd (h a List.mem_cons_self) (by omega)
  | n + 1, L, hn, h => by
    have ih := nodup_le n (L.erase n) (hn.erase n) (fun x hx => by
      have h1 := (List.Nodup.mem_erase_iff hn).1 hx
      have := h x h1.2
      omega)
    rw [List.length_erase] at ih
    split at ih <;> omega
section
variable {n : Nat} {s : List UInt8}
end
/-- The numbers of a round: each is the next one of one of them, or the first. -/
structure Way (nx : Nat → Nat → Prop) (E : Nat → Prop) (first a : Nat) (V : List Nat) : Prop where
  nodup : (V ++ [a]).Nodup
  ext : ∀ v ∈ V ++ [a], E v
  head : (V ++ [a]).head? = some first
  pred : ∀ v ∈ V, v = first ∨ ∃ u ∈ V, nx u v
  succ : ∀ v ∈ V, ∃ u ∈ V ++ [a], nx v u
  link : V = [] ∨ ∃ u ∈ V, nx u a
/-- A list that goes round. -/
structure Round (nx : Nat → Nat → Prop) (E : Nat → Prop) (first : Nat) (R : List Nat) : Prop where
  nodup : R.Nodup
  ext : ∀ v ∈ R, E v
  head : R.head? = some first
  succ : ∀ v ∈ R, ∃ u ∈ R, nx v u
theorem go_round {nx : Nat → Nat → Prop} {E : Nat → Prop} {nv : Nat → Int} {first n : Nat} (hE : ∀ v, E v → v < n) (hnx : ∀ v, E v → ∃ u : Nat, nv v = (u : Int) ∧ nx v u ∧ E u ∧ u ≠ v) (hinj : ∀ v v' u, E v → E v' → nx v u → nx v' u → v = v') :
    ∀ (f a : Nat) (V : List Nat), V.length + f = n → Way nx E first a V → ∃ R, Round nx E first R ∧ V.map (fun (x : Nat) => (x : Int)) ++ hullGo nv first f a = R.map (fun (x : Nat) => (x : Int))
  | 0, a, V, hf, hw => by
    have := nodup_le n (V ++ [a]) hw.nodup (fun x hx => hE x (hw.ext x hx))
    simp at this
    omega
  | f + 1, a, V, hf, hw => by
    have hEa := hw.ext a (by simp)
    obtain ⟨u, hu, hau, hEu, hne⟩ := hnx a hEa
    by_cases hc : u = first
    · refine ⟨V ++ [a], ⟨hw.nodup, hw.ext, hw.head, fun v hv => ?_⟩, ?_⟩
      · rcases List.mem_append.1 hv with h | h
        · exact hw.succ v h
        · obtain rfl := List.mem_singleton.1 h
          refine ⟨u, ?_, hau⟩
          rw [hc]
          exact List.mem_of_mem_head? hw.head
      · rw [hullGo_stop (by rw [hu, hc]; exact .inl rfl)]
        simp
    · have hst : ¬ (nv a = (first : Int) ∨ nv a < 0) := by rw [hu]; omega
      have hmem : u ∉ V ++ [a] := fun hm => by
        rcases List.mem_append.1 hm with h | h
        · rcases hw.pred u h with e | ⟨v, hv, hvu⟩
          · exact hc e
          · have := hinj a v u hEa (hw.ext v (by simp [hv])) hau hvu
            subst this
            have hnd := hw.nodup
            rw [List.nodup_append] at hnd
            exact hnd.2.2 a hv a (by simp) rfl
        · exact hne (List.mem_singleton.1 h)
      obtain ⟨R, hR, hmap⟩ := go_round hE hnx hinj f u (V ++ [a]) (by simp; omega) ⟨by
          rw [List.nodup_append]
          exact ⟨hw.nodup, by simp, fun x hx y hy e => by
            rw [List.mem_singleton.1 hy] at e
            exact hmem (e ▸ hx)⟩, fun v hv => by
          rcases List.mem_append.1 hv with h | h
          · exact hw.ext v h
          · rw [List.mem_singleton.1 h]; exact hEu, by
          have := hw.head
          cases V with
          | nil => simpa using this
          | cons y ys => simpa using this, fun v hv => by
          rcases List.mem_append.1 hv with h | h
          · rcases hw.pred v h with e | ⟨t, ht, htv⟩
            · exact .inl e
            · exact .inr ⟨t, by simp [ht], htv⟩
          · rw [List.mem_singleton.1 h]
            rcases hw.link with e | ⟨t, ht, hta⟩
            · left
              have := hw.head
              rw [e] at this
              simpa using this
            · exact .inr ⟨t, by simp [ht], hta⟩, fun v hv => by
          rcases List.mem_append.1 hv with h | h
          · obtain ⟨t, ht, hvt⟩ := hw.succ v h
            exact ⟨t, List.mem_append_left _ ht, hvt⟩
          · rw [List.mem_singleton.1 h]
            exact ⟨u, by simp, hau⟩, .inr ⟨a, by simp, hau⟩⟩
      refine ⟨R, hR, ?_⟩
      rw [hullGo_on hst hu, ← hmap]
      simp
end Go.Proofs.YtinlnafkmoabbaaDoor.Sg
/- Hulls on plain functions: the numbers that FnHulls compares. -/
namespace Go.Proofs.YtinlnafkmoabbaaDoor.Sg
/-- How many elements a set has. -/
def pcS (x : Nat) : Nat := (setsTo x.testBit 7).length
section
variable {n : Nat} {s : List UInt8}
theorem pcS_all : ∀ n, n < 8 → pcS (2 ^ n - 1) = n := by decide +kernel
end
end Go.Proofs.YtinlnafkmoabbaaDoor.Sg
/- Hulls on plain functions: what impl's lists of elements tell. -/
namespace Go.Proofs.YtinlnafkmoabbaaDoor.Sg
def zl (L : List Nat) : List Int := L.map fun (x : Nat) => (x : Int)
theorem zl_length (L : List Nat) : (zl L).length = L.length := List.length_map _
theorem zl_nil {L : List Nat} (h : zl L = []) : L = [] := by cases L with
  | nil => rfl
  | cons a l => cases h
/-- The elements of a set, ascending. -/
def eltN (set : Nat) : List Nat := (List.range 7).filter set.testBit
theorem setsTo_elt (set : Nat) : setsTo set.testBit 7 = zl (eltN set) := rfl
theorem elt_len (set : Nat) : (eltN set).length ≤ 7 := by
  have := List.length_filter_le set.testBit (List.range 7)
  rw [List.length_range] at this
  exact this
section
variable {n : Nat} {s : List UInt8}
end
end Go.Proofs.YtinlnafkmoabbaaDoor.Sg
