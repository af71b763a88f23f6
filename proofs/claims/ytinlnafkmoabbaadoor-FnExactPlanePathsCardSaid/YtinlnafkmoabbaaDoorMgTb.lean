/- Several texts in one: TrMatch, TrMove. -/
import Derived.Test.YtinlnafkmoabbaaDoorMgTa
import Derived.Test.YtinlnafkmoabbaaDoorMgKr
/- Sorted signs are told by bits; so what the finite check says holds of all of them. Plain mathematics. -/
namespace Go.Proofs.YtinlnafkmoabbaaDoor.Sg
theorem setN_congr {q q' : Nat → Bool} : ∀ {K : Nat}, (∀ y, y < K → q y = q' y) → setN q K = setN q' K
  | 0, _ => rfl
  | K + 1, h => by
    rw [setN, setN, setN_congr (K := K) fun y hy => h y (by omega), h K (by omega)]
theorem all_congr' {α : Type} {p q : α → Bool} : ∀ {L : List α}, (∀ x ∈ L, p x = q x) → L.all p = L.all q
  | [], _ => rfl
  | a :: L, h => by rw [List.all_cons, List.all_cons, h a List.mem_cons_self, all_congr' fun x hx => h x (List.mem_cons_of_mem _ hx)]
section
variable {n : Nat} {G H : Nat → Nat → Nat → Int}
end
end Go.Proofs.YtinlnafkmoabbaaDoor.Sg
/- Elements renamed: crossings, full sets, flips, triangles and extreme elements are renamed too. Plain mathematics. -/
namespace Go.Proofs.YtinlnafkmoabbaaDoor.Sg
section
variable {n : Nat} {p r : Nat → Nat} (h7 : n ≤ 7) (hp : Ren n p r)
include h7 hp
end
/-- The names back again. -/
theorem Ren.back {n : Nat} {p r : Nat → Nat} (h : Ren n p r) : Ren n (fun x => if x < n then r x else x) (fun x => if x < n then p x else x) := by
  refine ⟨fun {x} hx => by rw [if_pos hx]; exact h.lt' hx, fun {x} hx => by rw [if_pos hx]; exact h.lt hx, fun {x} hx => ?_, fun {x} hx => ?_, fun {x} hx => by rw [if_neg (by omega)]⟩
  · rw [if_pos hx, if_pos (h.lt' hx)]; exact h.r hx
  · rw [if_pos hx, if_pos (h.lt hx)]; exact h.l hx
section
variable {n : Nat} {p r : Nat → Nat} (h7 : n ≤ 7) (hp : Ren n p r)
include h7 hp
end
section
variable {n : Nat} {G : Nat → Nat → Nat → Int}
end
end Go.Proofs.YtinlnafkmoabbaaDoor.Sg
