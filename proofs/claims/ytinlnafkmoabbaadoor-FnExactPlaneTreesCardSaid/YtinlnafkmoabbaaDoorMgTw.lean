/- Several texts in one: KrFacts, TrFacts. -/
import Derived.Deep.RegionHeld3
import Derived.Test.YtinlnafkmoabbaaDoorProg
import Derived.WalkKit
import Derived.OrdersHeld
import Derived.Deep.RegionHeld
import Derived.Test.YtinlnafkmoabbaaDoorMgR
import Derived.Test.YtinlnafkmoabbaaDoorMgS
import Derived.Test.YtinlnafkmoabbaaDoorMgQ
import Derived.StillTailTactics
import Derived.Test.YtinlnafkmoabbaaDoorMgP
import Derived.Test.YtinlnafkmoabbaaDoorMgKr
import Derived.Test.YtinlnafkmoabbaaDoorQuFacts
import Derived.Test.YtinlnafkmoabbaaDoorTrDist
import Derived.Test.YtinlnafkmoabbaaDoorTrAdd
/- What FnCrossings asks of the answers, on plain functions; laws.size of a set of edges. -/
namespace Go.Proofs.YtinlnafkmoabbaaDoor.Sg
open Go.RowKit Pt NewI
/-- How many elements a set of at most f bits has. -/
def szF : Nat → Nat → Nat
  | 0, _ => 0
  | f + 1, S => S % 2 + szF f (S / 2)
theorem szF_zero : ∀ f, szF f 0 = 0
  | 0 => rfl
  | f + 1 => by show 0 % 2 + szF f (0 / 2) = 0; rw [show 0 / 2 = 0 from rfl, szF_zero f]
theorem szF_le : ∀ f S, szF f S ≤ f
  | 0, _ => Nat.le_refl _
  | f + 1, S => by
    have := szF_le f (S / 2)
    show S % 2 + szF f (S / 2) ≤ _
    omega
theorem szF_is : ∀ f S, szF f S = (List.range f).countP fun k => S.testBit k
  | 0, _ => rfl
  | f + 1, S => by
    rw [List.range_succ_eq_map, List.countP_cons, List.countP_map]
    show S % 2 + szF f (S / 2) = _
    rw [szF_is f (S / 2)]
    have e : ((fun k => S.testBit k) ∘ Nat.succ) = fun k => (S / 2).testBit k := by
      funext k
      show S.testBit (k + 1) = _
      rw [Nat.testBit_succ]
    rw [e, Nat.testBit_zero]
    rcases Nat.mod_two_eq_zero_or_one S with h | h <;> rw [h] <;> simp <;> omega
section
variable {n : Nat} {s : List UInt8}
end
end Go.Proofs.YtinlnafkmoabbaaDoor.Sg
/- What FnTriangulations asks of the answers, on plain functions. -/
namespace Go.Proofs.YtinlnafkmoabbaaDoor.Sg
open Go.RowKit Pt NewI
section
variable {n : Nat} {s : List UInt8}
theorem size_szF {T : Nat} (hE : eN n ≤ 21) (hT : T < 2 ^ eN n) : szF 21 T = sizE (eN n) T := by
  rw [szF_is]
  unfold sizE
  have e2 : List.range 21 = List.range (eN n) ++ (List.range (21 - eN n)).map (eN n + ·) := by
    rw [← List.range_add, show eN n + (21 - eN n) = 21 by omega]
  rw [e2, List.countP_append, List.countP_map]
  have e3 : (List.range (21 - eN n)).countP ((fun k => T.testBit k) ∘ (eN n + ·)) = 0 := by
    rw [List.countP_eq_zero]
    intro x hx hb
    have hb : T.testBit (eN n + x) = true := hb
    rw [Nat.testBit_lt_two_pow (Nat.lt_of_lt_of_le hT (Nat.pow_le_pow_right (by omega) (by omega)))] at hb
    cases hb
  rw [e3, Nat.add_zero]
end
end Go.Proofs.YtinlnafkmoabbaaDoor.Sg
