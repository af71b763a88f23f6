/- The least number of flips, as spec finds it: FlipDistance. -/
import Derived.Test.YtinlnafkmoabbaaDoorTrAdd
namespace Go.Proofs.YtinlnafkmoabbaaDoor.Sg
open Go.RowKit Pt NewI
theorem OwnN.n {w : World} {B g cap N : Nat} {L : List Nat} (h : OwnN w B g cap L) (hN : N = L.length) : w.ownsRow B 3 1 (.slice (some ⟨g, 0, none⟩) N cap) N ((zl L).map (Value.int .i64)) := by subst hN; exact h
theorem OwnN.of {w : World} {B g cap N : Nat} {L : List Nat} (hN : N = L.length) (h : w.ownsRow B 3 1 (.slice (some ⟨g, 0, none⟩) N cap) N ((zl L).map (Value.int .i64))) : OwnN w B g cap L := by subst hN; exact h
end Go.Proofs.YtinlnafkmoabbaaDoor.Sg
