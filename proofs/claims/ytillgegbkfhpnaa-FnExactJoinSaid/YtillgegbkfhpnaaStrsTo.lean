/- toStringS: a copy in a new block. -/
import Derived.Test.YtillgegbkfhpnaaStrs
namespace Go.Proofs.Ytillgegbkfhpnaa.Strs
open Go.RowKit
def strAt (xs : List ByteArray) (j : Nat) : Value := .string (xs.getD j ⟨#[]⟩)
theorem strAt_lt (xs : List ByteArray) (j : Nat) (h : j < xs.length) : strAt xs j = .string xs[j] := by unfold strAt; rw [List.getD_eq_getElem?_getD, List.getElem?_eq_getElem h]; rfl
def sofar (xs : List ByteArray) (k : Nat) (j : Nat) : Value := if j < k then strAt xs j else .string ⟨#[]⟩
theorem At.of_row {w : World} {b : Nat} {t : TypeId} {xs : List ByteArray} (h : w.rowIs b t xs.length (strAt xs)) : At w b 0 xs := fun j x hx => by
  obtain ⟨hj, rfl⟩ := List.getElem?_eq_some_iff.1 hx
  have := h.cell hj
  rw [strAt_lt xs j hj] at this
  simpa using this
theorem row_on {w w' : World} {B b : Nat} {t : TypeId} {n : Nat} {f : Nat → Value} (h : w.rowIs b t n f) (hb : Below B w w') (hB : b < B) : w'.rowIs b t n f := h.of_block (hb.block b hB)
theorem info9 : (Try.prog.info? 9).map (fun i => (i.zero, i.size, i.bytes)) = some (some (.string ⟨#[]⟩), 1, 16) := by kernel_rfl

set_option maxHeartbeats 400000 in
set_option maxRecDepth 100000 in
theorem to_any (b o c : Nat) (xs : List ByteArray) (hx : xs.length ≤ 1048576) (w : World) (hc : At w b o xs) (hbw : b < w.heap.size) :
    Calls Try.prog 6 #[.slice (some ⟨b, o, none⟩) xs.length c] w fun e w' => e = .returned (.slice (some ⟨w.heap.size, 0, none⟩) xs.length xs.length) ∧ w'.rowIs w.heap.size 9 xs.length (strAt xs) ∧ Below w.heap.size w w' := by
  have hmk := run_make_row' (P := Try.prog) 22 9 (.string ⟨#[]⟩) 16 Try.underlying22 info9 rfl .i64 .i64 xs.length (by omega) (by omega)
  have h0 : (w.alloc (.cells (madeCells #[.string ⟨#[]⟩] xs.length) 9)).rowIs w.heap.size 9 xs.length (sofar xs 0) := (World.rowIs_made w (.string ⟨#[]⟩) xs.length 9).congr (fun i _ => by simp [sofar])
  have hb0 : Below w.heap.size w (w.alloc (.cells (madeCells #[.string ⟨#[]⟩] xs.length) 9)) := (Below.refl _ _).alloc (Nat.le_refl _) _
  have H0 := Lib.hid h0
  have HB0 := Lib.hid hb0
  clear h0 hb0
  go_enter Try.func6, Try.ntmps6
  go_wp2
  go_loopw [4] (fun i wr => ∃ k : Nat, k ≤ xs.length ∧ i = .int .i64 k ∧ wr.rowIs w.heap.size 9 xs.length (sofar xs k) ∧ Below w.heap.size w wr) (fun i _ => xs.length - (intOf i).toNat)
  case atStart => exact ⟨0, Nat.zero_le _, rfl, H0.out, HB0.out⟩
  case round =>
    obtain ⟨k, hk, rfl, hrow, hb⟩ := hrel
    by_cases hlt : k < xs.length
    · have hcell := (hc.on hb hbw).get k hlt
      have hdst := hrow.cell hlt
      have hfz := hrow.frozen k
      have HR := Lib.hid ((hrow.set k (.string xs[k])).congr (g := sofar xs (k + 1)) (fun i hi => by
        unfold sofar
        by_cases e : i = k
        · subst e; rw [if_pos rfl, if_pos (by omega), strAt_lt xs i hlt]
        · rw [if_neg e]
          by_cases h2 : i < k
          · rw [if_pos h2, if_pos (by omega)]
          · rw [if_neg h2, if_neg (by omega)]))
      have HB := Lib.hid (hb.setCell (p := ⟨w.heap.size, k, none⟩) (Nat.le_refl _) (.string xs[k]))
      clear hrow
      go_wp2
      exact ⟨⟨k + 1, by omega, by go_num, HR.out, HB.out⟩, by simp only [intOf]; omega⟩
    · have HR := Lib.hid (hrow.congr (g := strAt xs) (fun i hi => by unfold sofar; rw [if_pos (by omega)]))
      clear hrow
      go_wp2
      go_ret
      exact ⟨rfl, HR.out, hb⟩
set_option maxRecDepth 100000 in
theorem to_none (a : Option Addr) (c : Nat) (w : World) :
    Calls Try.prog 6 #[.slice a 0 c] w fun e w' => e = .returned (.slice (some ⟨w.heap.size, 0, none⟩) 0 0) ∧ w'.rowIs w.heap.size 9 0 (strAt []) ∧ Below w.heap.size w w' := by
  have hmk := run_make_row' (P := Try.prog) 22 9 (.string ⟨#[]⟩) 16 Try.underlying22 info9 rfl .i64 .i64 0 (by omega) (by omega)
  simp only [Int.natCast_zero] at hmk
  have H0 := Lib.hid ((World.rowIs_made w (.string ⟨#[]⟩) 0 9).congr (g := strAt []) (fun i hi => by omega))
  have HB0 := Lib.hid (((Below.refl w.heap.size w).alloc (Nat.le_refl _) (.cells (madeCells #[.string ⟨#[]⟩] 0) 9)))
  go_enter Try.func6, Try.ntmps6
  go_wp2
  refine wp_loop_rounds 1 ?_
  rw [rounds_succ]
  go_wp2
  go_ret
  exact ⟨rfl, H0.out, HB0.out⟩
end Go.Proofs.Ytillgegbkfhpnaa.Strs
