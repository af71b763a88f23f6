/- FnExactIsWiring: for every number and every list of ints impl.IsWiring and spec.IsWiring answer alike, and the list is left as it was. -/
import Derived.Test.YtfpbehnpaedpmaaDoorSgInts
import Derived.Test.YtfpbehnpaedpmaaDoorWjAft
import Derived.Test.YtfpbehnpaedpmaaDoorWjSwaps
import Derived.Test.YtfpbehnpaedpmaaDoorWjFlip
import Derived.Test.YtfpbehnpaedpmaaDoorWjTurn
import Derived.Test.YtfpbehnpaedpmaaDoorWjFrom
namespace Go.Proofs.YtfpbehnpaedpmaaDoor.Sg
open Go.RowKit Pt NewI Wi
theorem src_row {w : World} {b : Nat} {zs : List Int} (h : RowZ w b zs) : SrcZ w w.heap.size (some ⟨b, 0, none⟩) zs := fun j hj =>
  ⟨b, 0, rfl, h.lt, h.at j _ (by rw [List.getD_eq_getElem?_getD, List.getElem?_eq_getElem hj]; rfl)⟩
theorem len_ints {w : World} {v : Value} {zs : List Int} (h : Kit.IntsArg w v zs) : ∃ a c, v = .slice a zs.length c ∧ zs.length ≤ 9223372036854775807 := by
  obtain ⟨a, c, rfl, h1, -⟩ := h
  exact ⟨a, c, rfl, by omega⟩
end Go.Proofs.YtfpbehnpaedpmaaDoor.Sg
