/- The elements other than one, in memory of the call's own (spec.l3Others); what a function that hands back signs and a bool keeps in sight. -/
import Derived.Test.YtfpbehnpaedpmaaSgPick
namespace Go.Proofs.Ytfpbehnpaedpmaa.Sg
open Go.RowKit Pt
set_option maxRecDepth 100000 in
theorem infoI : (Try.prog.info? 3).map (fun i => (i.zero, i.size, i.bytes)) = some (some (.int .i64 0), 1, 8) := by kernel_rfl
theorem news1 (w : World) (x : Int) (t : TypeId) : ∀ (j : Nat) u, [Value.int .i64 x][j]? = some u → (w.alloc (.cells #[.int .i64 x] t)).cell? (Addr.add ⟨w.heap.size, 0, none⟩ j) = some u
  | 0, u, h => by
    rw [WideShapes.add_plain, Nat.add_zero, World.cell?_alloc_new]
    simpa using h
  | j + 1, u, h => by simp at h
theorem one1 (x : Int) : ∀ u ∈ [Value.int .i64 x], u.oneCell' = true := fun u hu => by
  simp only [List.mem_cons, List.not_mem_nil, or_false] at hu
  subst hu; rfl
/-- The signs by value and the zero result, in the two blocks that the call makes first. -/
structure WAt (w : World) (n : Int) (s : ByteArray) (W : World) : Prop where
  b0 : W.cell? ⟨w.heap.size, 0, none⟩ = some (.int .i64 n)
  b1 : W.cell? ⟨w.heap.size, 1, none⟩ = some (.string s)
  r0 : W.cell? ⟨w.heap.size + 1, 0, none⟩ = some (.int .i64 0)
  r1 : W.cell? ⟨w.heap.size + 1, 1, none⟩ = some (.string ⟨#[]⟩)
  z0 : W.frozen? ⟨w.heap.size + 1, 0, none⟩ = false
  z1 : W.frozen? ⟨w.heap.size + 1, 1, none⟩ = false
  below : Below w.heap.size w W
theorem WAt.on {w : World} {n : Int} {s : ByteArray} {W W' : World} (h : WAt w n s W) (hb : Below W.heap.size W W') : WAt w n s W' := by
  have l0 : w.heap.size < W.heap.size := Kit.cell_lt h.b0
  have l1 : w.heap.size + 1 < W.heap.size := Kit.cell_lt h.r0
  exact ⟨by rw [hb.cell l0]; exact h.b0, by rw [hb.cell l0]; exact h.b1, by rw [hb.cell l1]; exact h.r0, by rw [hb.cell l1]; exact h.r1, by rw [hb.frozen l1]; exact h.z0, by rw [hb.frozen l1]; exact h.z1, h.below.trans (hb.mono (by omega))⟩
theorem WAt.drew {w : World} {n : Int} {s : ByteArray} {W : World} (h : WAt w n s W) : WAt w n s W.drew := ⟨h.b0, h.b1, h.r0, h.r1, h.z0, h.z1, h.below.drew⟩
end Go.Proofs.Ytfpbehnpaedpmaa.Sg
