/- OppositeSigns, as spec answers it; the law. -/
import Derived.Test.YtfjimdmoindepaaSgOpp
import Derived.Test.YtfjimdmoindepaaPtTurn
import Derived.Laws.Strings
namespace Go.Proofs.Ytfjimdmoindepaa.Sg
open Go.RowKit Pt
set_option maxRecDepth 100000 in
theorem l3Byte_any (x : Int) (w : World) : Calls Try.prog 72 #[.int .i64 x] w fun e w' => e = .returned (.string ⟨#[byteOf x]⟩) ∧ w' = w := by
  by_cases h : 0 < x
  · have HE : Hid (byteOf x = 43) := Lib.hid (if_pos h)
    go_enter Try.func72, Try.ntmps72
    go_wp2
    go_ret
    exact ⟨by rw [HE.out]; rfl, rfl⟩
  · have HE : Hid (byteOf x = 45) := Lib.hid (if_neg h)
    go_enter Try.func72, Try.ntmps72
    go_wp2
    go_ret
    exact ⟨by rw [HE.out]; rfl, rfl⟩
def bitI (b : Bool) : Int := if b = true then 1 else 0
theorem bit_any (b : Bool) (w : World) : Calls Try.prog 46 #[.bool b] w fun e w' => e = .returned (.int .i64 (bitI b)) ∧ w' = w := by
  cases b
  · exact (bit_no w).mono fun _ _ ⟨h, e⟩ => ⟨h, e.symm⟩
  · exact (bit_yes w).mono fun _ _ ⟨h, e⟩ => ⟨h, e.symm⟩
/-- Signs in the making, in block Bo. -/
def OutC (Bo : Nat) (n : Int) (x : ByteArray) (W : World) : Prop := (W.cell? ⟨Bo, 0, none⟩ = some (.int .i64 n) ∧ W.cell? ⟨Bo, 1, none⟩ = some (.string x)) ∧ (W.frozen? ⟨Bo, 0, none⟩ = false ∧ W.frozen? ⟨Bo, 1, none⟩ = false)
theorem outC_made (w : World) (n : Int) (x : ByteArray) (t : TypeId) : OutC w.heap.size n x (w.alloc (.cells #[.int .i64 n, .string x] t)) := by
  refine ⟨⟨?_, ?_⟩, ⟨?_, ?_⟩⟩
  all_goals go_simp
theorem OutC.set {Bo : Nat} {n : Int} {x : ByteArray} {W : World} (h : OutC Bo n x W) (y : ByteArray) : OutC Bo n y (W.setCell ⟨Bo, 1, none⟩ (.string y)) := by
  obtain ⟨⟨h1, h2⟩, ⟨h3, h4⟩⟩ := h
  exact ⟨⟨by rw [World.cell?_setCell_other _ _ _ _ (by simp)]; exact h1, World.cell?_setCell_same _ _ _ h2⟩, ⟨by rw [World.frozen?_setCell]; exact h3, by rw [World.frozen?_setCell]; exact h4⟩⟩
theorem OutC.on {Bo : Nat} {n : Int} {x : ByteArray} {W W' : World} (h : OutC Bo n x W) (hb : Below W.heap.size W W') : OutC Bo n x W' := by
  obtain ⟨⟨h1, h2⟩, ⟨h3, h4⟩⟩ := h
  have hl : Bo < W.heap.size := Kit.cell_lt h1
  exact ⟨⟨by rw [hb.cell hl]; exact h1, by rw [hb.cell hl]; exact h2⟩, ⟨by rw [hb.frozen hl]; exact h3, by rw [hb.frozen hl]; exact h4⟩⟩
theorem Box.on' {w0 : World} {n : Int} {s : ByteArray} {w w' : World} {B : Nat} (h : Box w0 n s w) (hb : Below B w w') (hl : w0.heap.size < B) (_hs : B ≤ w.heap.size) : Box w0 n s w' :=
  ⟨by rw [hb.cell hl]; exact h.1, by rw [hb.cell hl]; exact h.2.1, h.2.2.trans (hb.mono (by omega))⟩
theorem bytes_snoc (l : List UInt8) (b : UInt8) : (⟨l.toArray⟩ : ByteArray) ++ ⟨#[b]⟩ = ⟨(l ++ [b]).toArray⟩ := by
  apply ByteArray.ext
  rw [ByteArray.data_append]
  simp
theorem oppV_ex (n : Int) (s : ByteArray) : ∃ m t b, oppV n s = .tuple #[sg m t, .bool b] := by
  cases h : arB n s.data.toList
  · exact ⟨_, _, _, oppV_no h⟩
  · exact ⟨_, _, _, oppV_yes h⟩
end Go.Proofs.Ytfjimdmoindepaa.Sg
