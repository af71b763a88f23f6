/- What the laws use of lists of numbers: big, sameInts of equal ones, hasInt. -/
import Derived.Test.YtinlnafkmoabbaaGreatDoorNewI
import Derived.Test.YtinlnafkmoabbaaGreatDoorMgU
import Derived.BigQuiet
namespace Go.Proofs.YtinlnafkmoabbaaGreatDoor.NewI
open Go.RowKit
theorem New.get {w : World} {lo hi : Nat} {a : Option Addr} {zs : List Int} (h : New w lo hi a zs.length (zc zs)) (k : Nat) (hk : k < zs.length) : ∃ b, a = some ⟨b, 0, none⟩ ∧ b < w.heap.size ∧ w.cell? ⟨b, k, none⟩ = some (.int .i64 zs[k]) := by
  rcases h with h | ⟨b, rfl, -, -, hc⟩
  · omega
  · exact ⟨b, rfl, hc.lt, by rw [hc.cell k hk, zc_lt hk]⟩
set_option maxRecDepth 100000 in
theorem big_any (v : Value) (n : Nat) (w : World) (hv : Cur.Bytes w v n w.heap.size) :
    Calls Tryz.prog 6 #[v] w fun e w' => e = .returned (.bool (decide ((n : Int) > 1048576))) ∧ w' = w := by
  obtain ⟨a, c, rfl, hn, _⟩ := hv
  go_enter Tryz.func6, Tryz.ntmps6
  go_wp2
  go_ret
  exact ⟨rfl, rfl⟩
end Go.Proofs.YtinlnafkmoabbaaGreatDoor.NewI
