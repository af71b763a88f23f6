/- Several texts in one: SgThrees, SgAreImpl. -/
import Derived.Test.YtfpbehnpaedpmaaDoorMgPa
import Derived.Laws.MakeOwn
import Derived.Laws.Entries
import Derived.Deep.QuietTactic
import Derived.BigQuiet
import Derived.RegionTactic
import Derived.Outline
import Derived.Test.YtfpbehnpaedpmaaDoorKit
import Derived.Laws.AppendOwn
import Derived.Laws.OwnMore
import Derived.OwnWalk
import Derived.Deep.AppendLies
import Derived.Deep.OwnRows
import Derived.Deep.Onto
import Derived.ChangeAlike
import Derived.BigRegion
import Derived.Test.YtfpbehnpaedpmaaDoorShelf
import Derived.Deep.RegionHeld3
import Derived.Deep.RegionWith
/- impl.threesOf: the threes of n elements, in memory of the call's own. -/
namespace Go.Proofs.YtfpbehnpaedpmaaDoor.Sg
open Go.RowKit Pt
/-- The cells of a list of threes. -/
def c3 : List T3 → List Value
  | [] => []
  | t :: r => .int .i64 t.1 :: .int .i64 t.2.1 :: .int .i64 t.2.2 :: c3 r
end Go.Proofs.YtfpbehnpaedpmaaDoor.Sg
/- impl.AreSigns, and the law: both answer alike. -/
namespace Go.Proofs.YtfpbehnpaedpmaaDoor.Sg
open Go.RowKit Pt
theorem drewN_below {B : Nat} {a w : World} (h : Below B a w) (n : Nat) : Below B a (w.drewN n) := ⟨h.os, h.tape, h.output, h.size, h.block⟩
/-- Signs in a block of the call's own. -/
def Box (w0 : World) (n : Int) (s : ByteArray) (W : World) : Prop := W.cell? ⟨w0.heap.size, 0, none⟩ = some (.int .i64 n) ∧ W.cell? ⟨w0.heap.size, 1, none⟩ = some (.string s) ∧ Below w0.heap.size w0 W
theorem Box.drew {w0 : World} {n : Int} {s : ByteArray} {w : World} (h : Box w0 n s w) : Box w0 n s w.drew := ⟨h.1, h.2.1, h.2.2.drew⟩
theorem Box.alloc {w0 : World} {n : Int} {s : ByteArray} {w : World} (h : Box w0 n s w) (o : Obj) : Box w0 n s (w.alloc o) :=
  ⟨by rw [World.cell?_alloc_lt _ _ _ (Kit.cell_lt h.1)]; exact h.1, by rw [World.cell?_alloc_lt _ _ _ (Kit.cell_lt h.2.1)]; exact h.2.1, h.2.2.alloc h.2.2.size o⟩
theorem Box.on {w0 : World} {n : Int} {s : ByteArray} {w w' : World} (h : Box w0 n s w) (hb : Below w.heap.size w w') : Box w0 n s w' :=
  ⟨by rw [hb.cell (Kit.cell_lt h.1)]; exact h.1, by rw [hb.cell (Kit.cell_lt h.2.1)]; exact h.2.1, h.2.2.trans (hb.mono h.2.2.size)⟩
end Go.Proofs.YtfpbehnpaedpmaaDoor.Sg
