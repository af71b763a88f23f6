/- CircuitOf, as impl answers it. -/
import Derived.Test.YtfjimdmoindepaaRuCirc
import Derived.Test.YtfjimdmoindepaaSgBy
import Derived.Test.YtfjimdmoindepaaSgOthers
namespace Go.Proofs.Ytfjimdmoindepaa.Sg
open Go.RowKit Pt
/-- The text of a circuit; empty if a sign is 0. -/
def cirT (x : Int × Int × Int × Int) : List UInt8 := if x.1 = 0 ∨ x.2.1 = 0 ∨ x.2.2.1 = 0 ∨ x.2.2.2 = 0 then [] else [byteOf x.1, byteOf x.2.1, byteOf x.2.2.1, byteOf x.2.2.2]
theorem newsB (w : World) (x : UInt8) (t : TypeId) : ∀ (j : Nat) u, [Value.int .u8 (x.toNat : Nat)][j]? = some u → (w.alloc (.cells #[.int .u8 (x.toNat : Nat)] t)).cell? (Addr.add ⟨w.heap.size, 0, none⟩ j) = some u
  | 0, u, h => by
    rw [WideShapes.add_plain, Nat.add_zero, World.cell?_alloc_new]
    simpa using h
  | j + 1, u, h => by simp at h
theorem oneB (x : UInt8) : ∀ u ∈ [Value.int .u8 (x.toNat : Nat)], u.oneCell' = true := fun u hu => by
  simp only [List.mem_cons, List.not_mem_nil, or_false] at hu
  subst hu; rfl
/-- A value that owns just these bytes. -/
def OwnsB (w : World) (B : Nat) (v : Value) (L : List UInt8) : Prop := w.ownsRow B 5 1 v L.length (L.map fun (x : UInt8) => Value.int .u8 (x.toNat : Nat))
theorem ownsB_snoc {w : World} {B : Nat} {v : Value} {L : List UInt8} {x : UInt8} (h : w.ownsRow B 5 1 v (L.length + 1) ((L.map fun (x : UInt8) => Value.int .u8 (x.toNat : Nat)) ++ [.int .u8 (x.toNat : Nat)])) : OwnsB w B v (L ++ [x]) := by
  unfold OwnsB
  rw [List.map_append, List.length_append]
  exact h
theorem convB {w : World} {B : Nat} {v : Value} {L : List UInt8} (h : OwnsB w B v L) (h0 : 0 < L.length) : (convert 22 9 v).run Try.prog w = .ok (.string ⟨L.toArray⟩) w := by
  obtain ⟨hl, ⟨rfl, h1⟩ | ⟨g, cap, cur, hv, hB, hh, hr⟩⟩ := id h
  · omega
  · subst hv
    have hc := World.ownsRow.cells h (g := g) rfl
    refine run_convert_bytes_back (P := Try.prog) w 22 9 5 ⟨g, 0, none⟩ cap L Try.underlying22 Try.underlying5 Try.underlying9 (fun j hj => ?_)
    have := hc j (.int .u8 (L[j].toNat : Nat)) (by rw [List.getElem?_map, List.getElem?_eq_getElem hj]; rfl)
    exact this
set_option maxRecDepth 100000 in
theorem index4 (x0 x1 x2 x3 : Int) (W : World) :
    (Instr.index 71 (.agg #[.int .i64 x0, .int .i64 x1, .int .i64 x2, .int .i64 x3]) (.int .i64 0)).run Try.prog W = .ok (.int .i64 x0) W ∧
    (Instr.index 71 (.agg #[.int .i64 x0, .int .i64 x1, .int .i64 x2, .int .i64 x3]) (.int .i64 1)).run Try.prog W = .ok (.int .i64 x1) W ∧
    (Instr.index 71 (.agg #[.int .i64 x0, .int .i64 x1, .int .i64 x2, .int .i64 x3]) (.int .i64 2)).run Try.prog W = .ok (.int .i64 x2) W ∧
    (Instr.index 71 (.agg #[.int .i64 x0, .int .i64 x1, .int .i64 x2, .int .i64 x3]) (.int .i64 3)).run Try.prog W = .ok (.int .i64 x3) W := by
  refine ⟨?_, ?_, ?_, ?_⟩ <;> kernel_rfl
end Go.Proofs.Ytfjimdmoindepaa.Sg
