/- What the laws use of lists of numbers: big, sameInts of equal ones, hasInt. -/
import Derived.Test.YtinlnafkmoabbaaDoorNewI
import Derived.Test.YtinlnafkmoabbaaDoorMgU
import Derived.BigQuiet
namespace Go.Proofs.YtinlnafkmoabbaaDoor.NewI
open Go.RowKit
theorem New.get {w : World} {lo hi : Nat} {a : Option Addr} {zs : List Int} (h : New w lo hi a zs.length (zc zs)) (k : Nat) (hk : k < zs.length) : ∃ b, a = some ⟨b, 0, none⟩ ∧ b < w.heap.size ∧ w.cell? ⟨b, k, none⟩ = some (.int .i64 zs[k]) := by
  rcases h with h | ⟨b, rfl, -, -, hc⟩
  · omega
  · exact ⟨b, rfl, hc.lt, by rw [hc.cell k hk, zc_lt hk]⟩
end Go.Proofs.YtinlnafkmoabbaaDoor.NewI
