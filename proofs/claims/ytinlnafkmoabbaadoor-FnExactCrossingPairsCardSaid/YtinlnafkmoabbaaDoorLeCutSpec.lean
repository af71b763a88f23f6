/- What lies left, as spec tells it: CutSets. -/
import Derived.Test.YtinlnafkmoabbaaDoorMgL
import Derived.Test.YtinlnafkmoabbaaDoorHuFacts
import Derived.Test.YtinlnafkmoabbaaDoorMgO
namespace Go.Proofs.YtinlnafkmoabbaaDoor.Sg
open Go.RowKit Pt NewI
theorem new_low {w : World} {lo lo' hi n : Nat} {a : Option Addr} {f : Nat → Value} (h : New w lo hi a n f) (hl : lo' ≤ lo) : New w lo' hi a n f := by
  rcases h with h | ⟨b, h1, h2, h3, h4⟩
  · exact .inl h
  · exact .inr ⟨b, h1, Nat.le_trans hl h2, h3, h4⟩
end Go.Proofs.YtinlnafkmoabbaaDoor.Sg
